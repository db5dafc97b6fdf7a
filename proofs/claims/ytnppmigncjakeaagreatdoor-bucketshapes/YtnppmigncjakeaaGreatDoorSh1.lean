/-
  millraceref.Filled.When, walked: when so many bytes are in it; its drawn order matters not. Conditions: a bucket that may be, in memory.
-/
import Derived.Test.YtnppmigncjakeaaGreatDoorCfW
import Derived.Test.YtnppmigncjakeaaGreatDoorGq
namespace Go.Proofs.YtnppmigncjakeaaGreatDoor
open Go.RowKit Go.Deep

theorem FracR.frac {w : World} {b : Nat} {P Q : Int} (h : FracR w b P Q) : Frac w b P Q := by
  obtain ⟨a, c, h1, h2, h3, h4, h5⟩ := h.parts
  exact ⟨a, c, h1, h2, h3, h4, h5⟩
theorem gSub_any (xb yb : Nat) (V l t : Int) (w : World) (hx : FracR w xb l 1) (hy : FracR w yb V t) (hV : 0 ≤ V ∧ V ≤ 1000000000000) (hl : 0 ≤ l ∧ l ≤ 1000000) (ht : 1 ≤ t ∧ t ≤ 1000000) :
    Calls Tryz.prog 41 #[.pointer (some ⟨xb, 0, none⟩), .pointer (some ⟨yb, 0, none⟩)] w fun e w' => ∃ b, e = .returned (.pointer (some ⟨b, 0, none⟩)) ∧ FracR w' b (l * t - V) t ∧ Below w.heap.size w w' := by
  refine (rSub_any xb yb l 1 V t w hx hy (by omega) (by decide) (by omega) (by omega)).mono ?_
  rintro e w' ⟨b, rfl, h1, h2⟩
  rw [Int.mul_one, Int.one_mul] at h1
  exact ⟨b, rfl, h1, h2⟩
theorem gDiv_any (xb yb : Nat) (P n t : Int) (w : World) (hx : FracR w xb P t) (hy : FracR w yb n t) (hP : P.natAbs ≤ 2000000000000) (hn : 1 ≤ n ∧ n ≤ 1000000) (ht : 1 ≤ t ∧ t ≤ 1000000) :
    Calls Tryz.prog 56 #[.pointer (some ⟨xb, 0, none⟩), .pointer (some ⟨yb, 0, none⟩)] w fun e w' => ∃ b, e = .returned (.pointer (some ⟨b, 0, none⟩)) ∧ Frac w' b (P * t) (t * n) ∧ Below w.heap.size w w' := by
  have h1 : P.natAbs * t.natAbs ≤ 2000000000000 * 1000000 := Nat.mul_le_mul hP (by omega)
  have h2 : t.natAbs * n.natAbs ≤ 1000000 * 1000000 := Nat.mul_le_mul (by omega) (by omega)
  refine (refDiv_any xb yb P t n t w hx.frac hy.frac hn.1 ht.1 (by omega) (by omega) (by omega)).mono ?_
  rintro e w' ⟨b, rfl, _, h3, h4⟩
  exact ⟨b, rfl, h3, h4⟩
theorem ceil_whn {n t V l la : Int} (hn : 1 ≤ n) (ht : 1 ≤ t) : la + (if 0 < ceil ((l * t - V) * t) (t * n) then ceil ((l * t - V) * t) (t * n) else 0) = whn n t V la l := by
  have e1 : ceil ((l * t - V) * t) (t * n) = -((-(l * t - V)) / n) := by
    unfold ceil
    rw [← Int.neg_mul, Int.mul_comm (-(l * t - V)) t, Int.mul_ediv_mul_of_pos _ _ (by omega)]
  rw [e1]
  unfold whn
  generalize l * t - V = D
  have h1 := Int.mul_ediv_add_emod (-D) n
  have h2 := Int.emod_nonneg (-D) (by omega : n ≠ 0)
  have h3 := Int.emod_lt_of_pos (-D) (by omega : 0 < n)
  generalize (-D) / n = q at *
  generalize (-D) % n = r at *
  by_cases hD : D ≤ 0
  · have hz : (0 + n - 1) / n = 0 := Int.ediv_eq_zero_of_lt (by omega) (by omega)
    have hq : 0 ≤ q := by
      by_cases hq : 0 ≤ q
      · exact hq
      · exfalso
        have : n * q ≤ n * (-1) := Int.mul_le_mul_of_nonneg_left (by omega) (by omega)
        omega
    rw [if_pos hD, hz, if_neg (by omega)]
  · have hq : q < 0 := by
      by_cases hq : q < 0
      · exact hq
      · exfalso
        have : 0 ≤ n * q := Int.mul_nonneg (by omega) (by omega)
        omega
    rw [if_neg hD, if_pos (by omega)]
    congr 1
    have e2 : D + n - 1 = (n - 1 - r) + n * (-q) := by rw [Int.mul_neg]; omega
    rw [e2, Int.add_mul_ediv_left _ _ (by omega), Int.ediv_eq_zero_of_lt (by omega) (by omega), Int.zero_add]
theorem rwithin_no {l R : Int} (h : R < l) : wth l 0 R = false := wth_no.2 (by omega)
theorem fwhen_no {n t R lev lat : Int} (now l : Int) {f : Nat} (w : World) (h : FilAt w f n t R lev lat) (ht1 : now ≤ 1000000000) (hl : R < l) :
    Calls Tryz.prog 31 #[.pointer (some ⟨f, 0, none⟩), .int .i64 now, .int .i64 l] w fun e w' => e = .returned (.tuple #[.int .i64 0, .bool false]) ∧ w' = w := by
  obtain ⟨p, hf, _⟩ := h
  have c2 : w.cell? ⟨f, 2, none⟩ = some (.int .i64 R) := by simp [World.cell?, hf]
  have hw := rwithin_no hl
  have hg : ¬ 1000000000 < now := by omega
  clear hf
  go_enter Tryz.func31, Tryz.ntmps31
  go_wp2_with (go_at_call 34; refine (rwithin_any _ _ _ _).mono ?_; rintro e w' ⟨rfl, rfl⟩)
  go_ret2
  exact ⟨rfl, rfl⟩
set_option maxRecDepth 20000 in
set_option maxHeartbeats 4000000 in
theorem fwhen_any {n t R lev lat : Int} (now l : Int) {f : Nat} (w : World) (h : FilAt w f n t R lev lat) (hb : okB n t R) (hl0 : 0 ≤ lev) (hl1 : lev ≤ R * t) (ht0 : 0 ≤ lat) (hlt : lat ≤ 1000000000) (ht1 : now ≤ 1000000000) (hx : 0 ≤ l ∧ l ≤ R) (hp0 : 0 ≤ pas n t R lev lat now ∧ pas n t R lev lat now ≤ R * t) :
    Calls Tryz.prog 31 #[.pointer (some ⟨f, 0, none⟩), .int .i64 now, .int .i64 l] w fun e w' => e = .returned (.tuple #[.int .i64 (whn n t (pas n t R lev lat now) (lat1 lat now) l), .bool true]) ∧ FilAt w' f n t R (pas n t R lev lat now) (lat1 lat now) ∧ Oth (· = f) w w' := by
  obtain ⟨hr0, hr1⟩ := hb.room
  have HT := fto_any now w h hb hl0 hl1 ht0 ht1
  have HN : Hid ((1 ≤ n ∧ n ≤ 1000000) ∧ (1 ≤ t ∧ t ≤ 1000000) ∧ 0 ≤ R ∧ R ≤ 1000000) := hb
  have hla : 0 ≤ lat1 lat now ∧ lat1 lat now ≤ 1000000000 := by unfold lat1; split <;> omega
  have hw0 := whn_bounds (n := n) (t := t) (lev := pas n t R lev lat now) (lat := lat1 lat now) (l := l) hb.1.1
  obtain ⟨V, hV⟩ : ∃ V, pas n t R lev lat now = V := ⟨_, rfl⟩
  obtain ⟨la, hlaE⟩ : ∃ la, lat1 lat now = la := ⟨_, rfl⟩
  rw [hV, hlaE] at HT
  rw [hV] at hp0 ⊢
  rw [hlaE] at hla ⊢
  have HVB : Hid (0 ≤ V ∧ V ≤ 1000000000000) := ⟨hp0.1, by omega⟩
  have hRR := hb.2.2
  have HL : Hid (0 ≤ l ∧ l ≤ 1000000) := ⟨hx.1, by omega⟩
  have hlt2 : 0 ≤ l * t ∧ l * t ≤ 1000000000000 := by
    have := prod_bounds (n := t) (R := l) (a := 1000000) (b := 1000000) (by have := hb.2.1; omega) hb.2.1.2 hx.1 (by omega)
    omega
  have hdb : (l * t - V).natAbs ≤ 2000000000000 := by omega
  have HDB : Hid ((l * t - V).natAbs ≤ 2000000000000) := hdb
  have HQP : Hid (1 ≤ t * n) := Int.mul_pos (by have := hb.2.1; omega) (by have := hb.1; omega)
  have HUB : Hid (((l * t - V) * t).natAbs < 9223372036854775807 ∧ (t * n).natAbs < 9223372036854775807) := by
    have h1 : (l * t - V).natAbs * t.natAbs ≤ 2000000000000 * 1000000 := Nat.mul_le_mul hdb (by have := hb.2.1; omega)
    have h2 : t.natAbs * n.natAbs ≤ 1000000 * 1000000 := Nat.mul_le_mul (by have := hb.2.1; omega) (by have := hb.1; omega)
    show _ ∧ _
    rw [Int.natAbs_mul, Int.natAbs_mul]
    omega
  obtain ⟨C, hC⟩ : ∃ C, ceil ((l * t - V) * t) (t * n) = C := ⟨_, rfl⟩
  have HCE : Hid (ceil ((l * t - V) * t) (t * n) = C) := hC
  have hcb : C.natAbs ≤ 2000000000000000000 := by
    rw [← hC]
    unfold ceil
    have h1 := floor_abs (-((l * t - V) * t)) (t * n)
    have h2 : (l * t - V).natAbs * t.natAbs ≤ 2000000000000 * 1000000 := Nat.mul_le_mul hdb (by have := hb.2.1; omega)
    rw [Int.natAbs_neg, Int.natAbs_mul] at h1
    rw [Int.natAbs_neg]
    omega
  have HWH : Hid (la + (if 0 < C then C else 0) = whn n t V la l) := by show _ = _; rw [← hC]; exact ceil_whn hb.1.1 hb.2.1.1
  have hwl : wth l 0 R = true := wth_iff.2 hx
  have hg : ¬ 1000000000 < now := by omega
  obtain ⟨p0, hf0, _⟩ := h
  have c2 : w.cell? ⟨f, 2, none⟩ = some (.int .i64 R) := by simp [World.cell?, hf0]
  clear hf0 hb hl0 hl1 ht0 hV hlaE hp0 hx hr0 hr1 hlt2 hdb hC hw0 hlt ht1 hRR
  by_cases hpos : 0 < C
  · have HW2 : Hid (la + C = whn n t V la l) := by have := HWH.out; rw [if_pos hpos] at this; exact this
    have HEW : Hid (IntKind.i64.wrap (la + C) = la + C) := by show _ = _; rw [IntKind.wrap_i64]; omega
    go_enter Tryz.func31, Tryz.ntmps31
    go_wp2_with (first | (go_at_call 34; refine (rwithin_any _ _ _ _).mono ?_; rintro e w' ⟨rfl, rfl⟩) | (go_at_call 50; refine HT.mono ?_; rintro e w1 ⟨rfl, hfl, ho1⟩))
    obtain ⟨p1, hf1, hp1⟩ := hfl
    have HF1 : Hid (w1.heap[f]? = some (.cells #[.int .i64 n, .int .i64 t, .int .i64 R, .int .i64 la, .pointer (some ⟨p1, 0, none⟩)] 87 (0, 0))) := hf1
    have HO1 : Hid (Oth (· = f) _ w1) := ho1
    have HKI : Hid (∀ W : World, Below w1.heap.size w1 W → W.cell? ⟨f, 0, none⟩ = some (.int .i64 n) ∧ W.cell? ⟨f, 1, none⟩ = some (.int .i64 t) ∧ W.cell? ⟨f, 3, none⟩ = some (.int .i64 la) ∧ W.cell? ⟨f, 4, none⟩ = some (.pointer (some ⟨p1, 0, none⟩))) := by
      intro W hW
      have h1 := fil_cells ((hW.block _ (lt_of_block HF1.out)).trans HF1.out)
      exact ⟨h1.1.1, h1.1.2.1, h1.1.2.2.2.1, h1.1.2.2.2.2⟩
    have QX : Hid (FracR w1.drew p1 V t ∧ Below w1.heap.size w1 w1.drew) := ⟨hp1.below (Below.refl _ _).drew, (Below.refl _ _).drew⟩
    have HP1 : Hid (FracR w1 p1 V t) := hp1
    obtain ⟨g0, g1, g2, g3⟩ := HKI.out w1 (Below.refl _ _)
    clear hf1 hp1 ho1 HT
    go_region_held3 (fun W => W.cell? ⟨f, 0, none⟩ = some (.int .i64 n) ∧ W.cell? ⟨f, 1, none⟩ = some (.int .i64 t) ∧ W.cell? ⟨f, 3, none⟩ = some (.int .i64 la) ∧ W.cell? ⟨f, 4, none⟩ = some (.pointer (some ⟨p1, 0, none⟩))) (first | (with_reducible exact HKI.out _ QU.out) | (with_reducible exact HKI.out _ QX.out.2) | (with_reducible exact HKI.out _ QI.out.2) | (with_reducible exact HKI.out _ QS.out.2) | (with_reducible exact HKI.out _ QV.out.2) | (with_reducible exact HKI.out _ QD.out.2) | (with_reducible exact HKI.out _ QU.out.2) | (with_reducible exact HKI.out _ (Below.refl _ _).drew) | exact HKI.out _ (Below.refl _ _))
      (first
        | (go_at_call 35; refine (rInt_any l _ (by have := HL.out; omega)).mono ?_; rintro e wn ⟨bi, rfl, hf, l1⟩; have hbw : Below w1.heap.size w1 wn := (by first | exact QX.out.2.trans (l1.mono QX.out.2.size) | exact QS.out.2.trans (l1.mono QS.out.2.size) | exact QV.out.2.trans (l1.mono QV.out.2.size) | exact QD.out.2.trans (l1.mono QD.out.2.size)); (try replace QX : Hid (FracR wn p1 V t ∧ Below w1.heap.size w1 wn) := ⟨QX.out.1.below l1, hbw⟩); (try replace QS : Hid (FracR wn bs (l * t - V) t ∧ Below w1.heap.size w1 wn) := ⟨QS.out.1.below l1, hbw⟩); (try replace QV : Hid (FracR wn bv n t ∧ Below w1.heap.size w1 wn) := ⟨QV.out.1.below l1, hbw⟩); (try replace QD : Hid (Frac wn bd ((l * t - V) * t) (t * n) ∧ Below w1.heap.size w1 wn) := ⟨QD.out.1.below l1, hbw⟩); have QI : Hid (FracR wn bi l 1 ∧ Below w1.heap.size w1 wn) := ⟨hf, hbw⟩; clear hf l1 hbw)
        | (go_at_call 38; refine (rSpeed_any n t _ (by have := HN.out; omega) (by have := HN.out; omega)).mono ?_; rintro e wn ⟨bv, rfl, hf, l1⟩; have hbw : Below w1.heap.size w1 wn := (by first | exact QX.out.2.trans (l1.mono QX.out.2.size) | exact QI.out.2.trans (l1.mono QI.out.2.size) | exact QS.out.2.trans (l1.mono QS.out.2.size) | exact QD.out.2.trans (l1.mono QD.out.2.size)); (try replace QX : Hid (FracR wn p1 V t ∧ Below w1.heap.size w1 wn) := ⟨QX.out.1.below l1, hbw⟩); (try replace QI : Hid (FracR wn bi l 1 ∧ Below w1.heap.size w1 wn) := ⟨QI.out.1.below l1, hbw⟩); (try replace QS : Hid (FracR wn bs (l * t - V) t ∧ Below w1.heap.size w1 wn) := ⟨QS.out.1.below l1, hbw⟩); (try replace QD : Hid (Frac wn bd ((l * t - V) * t) (t * n) ∧ Below w1.heap.size w1 wn) := ⟨QD.out.1.below l1, hbw⟩); have QV : Hid (FracR wn bv n t ∧ Below w1.heap.size w1 wn) := ⟨hf, hbw⟩; clear hf l1 hbw)
        | (go_at_call 41; refine (gSub_any bi p1 V l t _ QI.out.1 QX.out.1 HVB.out HL.out HN.out.2.1).mono ?_; rintro e wn ⟨bs, rfl, hf, l1⟩; have hbw : Below w1.heap.size w1 wn := (by first | exact QX.out.2.trans (l1.mono QX.out.2.size) | exact QI.out.2.trans (l1.mono QI.out.2.size) | exact QV.out.2.trans (l1.mono QV.out.2.size) | exact QD.out.2.trans (l1.mono QD.out.2.size)); (try replace QX : Hid (FracR wn p1 V t ∧ Below w1.heap.size w1 wn) := ⟨QX.out.1.below l1, hbw⟩); (try replace QI : Hid (FracR wn bi l 1 ∧ Below w1.heap.size w1 wn) := ⟨QI.out.1.below l1, hbw⟩); (try replace QV : Hid (FracR wn bv n t ∧ Below w1.heap.size w1 wn) := ⟨QV.out.1.below l1, hbw⟩); (try replace QD : Hid (Frac wn bd ((l * t - V) * t) (t * n) ∧ Below w1.heap.size w1 wn) := ⟨QD.out.1.below l1, hbw⟩); have QS : Hid (FracR wn bs (l * t - V) t ∧ Below w1.heap.size w1 wn) := ⟨hf, hbw⟩; clear hf l1 hbw)
        | (go_at_call 56; refine (gDiv_any bs bv (l * t - V) n t _ QS.out.1 QV.out.1 HDB.out HN.out.1 HN.out.2.1).mono ?_; rintro e wn ⟨bd, rfl, hf, l1⟩; have hbw : Below w1.heap.size w1 wn := (by first | exact QX.out.2.trans (l1.mono QX.out.2.size) | exact QI.out.2.trans (l1.mono QI.out.2.size) | exact QS.out.2.trans (l1.mono QS.out.2.size) | exact QV.out.2.trans (l1.mono QV.out.2.size)); (try replace QX : Hid (FracR wn p1 V t ∧ Below w1.heap.size w1 wn) := ⟨QX.out.1.below l1, hbw⟩); (try replace QI : Hid (FracR wn bi l 1 ∧ Below w1.heap.size w1 wn) := ⟨QI.out.1.below l1, hbw⟩); (try replace QS : Hid (FracR wn bs (l * t - V) t ∧ Below w1.heap.size w1 wn) := ⟨QS.out.1.below l1, hbw⟩); (try replace QV : Hid (FracR wn bv n t ∧ Below w1.heap.size w1 wn) := ⟨QV.out.1.below l1, hbw⟩); have QD : Hid (Frac wn bd ((l * t - V) * t) (t * n) ∧ Below w1.heap.size w1 wn) := ⟨hf, hbw⟩; clear hf l1 hbw)
        | (go_at_call 55; refine (up_any bd ((l * t - V) * t) (t * n) _ QD.out.1 HQP.out HUB.out.1 HUB.out.2).mono ?_; rw [HCE.out]; rintro e wn ⟨rfl, l1⟩; have QU : Hid (Below w1.heap.size w1 wn) := QD.out.2.trans (l1.mono QD.out.2.size); clear l1))
    all_goals
      go_wp2
      go_ret2
      exact ⟨by rw [← HW2.out]; first | rfl | (simp; exact HEW.out), ⟨p1, (QU.out.block _ (lt_of_block HF1.out)).trans HF1.out, HP1.out.below QU.out⟩, HO1.out.trans (Oth.of_below QU.out)⟩
  · have HW2 : Hid (la + 0 = whn n t V la l) := by have := HWH.out; rw [if_neg hpos] at this; exact this
    have HEW : Hid (IntKind.i64.wrap la = la) := by show _ = _; rw [IntKind.wrap_i64]; omega
    go_enter Tryz.func31, Tryz.ntmps31
    go_wp2_with (first | (go_at_call 34; refine (rwithin_any _ _ _ _).mono ?_; rintro e w' ⟨rfl, rfl⟩) | (go_at_call 50; refine HT.mono ?_; rintro e w1 ⟨rfl, hfl, ho1⟩))
    obtain ⟨p1, hf1, hp1⟩ := hfl
    have HF1 : Hid (w1.heap[f]? = some (.cells #[.int .i64 n, .int .i64 t, .int .i64 R, .int .i64 la, .pointer (some ⟨p1, 0, none⟩)] 87 (0, 0))) := hf1
    have HO1 : Hid (Oth (· = f) _ w1) := ho1
    have HKI : Hid (∀ W : World, Below w1.heap.size w1 W → W.cell? ⟨f, 0, none⟩ = some (.int .i64 n) ∧ W.cell? ⟨f, 1, none⟩ = some (.int .i64 t) ∧ W.cell? ⟨f, 3, none⟩ = some (.int .i64 la) ∧ W.cell? ⟨f, 4, none⟩ = some (.pointer (some ⟨p1, 0, none⟩))) := by
      intro W hW
      have h1 := fil_cells ((hW.block _ (lt_of_block HF1.out)).trans HF1.out)
      exact ⟨h1.1.1, h1.1.2.1, h1.1.2.2.2.1, h1.1.2.2.2.2⟩
    have QX : Hid (FracR w1.drew p1 V t ∧ Below w1.heap.size w1 w1.drew) := ⟨hp1.below (Below.refl _ _).drew, (Below.refl _ _).drew⟩
    have HP1 : Hid (FracR w1 p1 V t) := hp1
    obtain ⟨g0, g1, g2, g3⟩ := HKI.out w1 (Below.refl _ _)
    clear hf1 hp1 ho1 HT
    go_region_held3 (fun W => W.cell? ⟨f, 0, none⟩ = some (.int .i64 n) ∧ W.cell? ⟨f, 1, none⟩ = some (.int .i64 t) ∧ W.cell? ⟨f, 3, none⟩ = some (.int .i64 la) ∧ W.cell? ⟨f, 4, none⟩ = some (.pointer (some ⟨p1, 0, none⟩))) (first | (with_reducible exact HKI.out _ QU.out) | (with_reducible exact HKI.out _ QX.out.2) | (with_reducible exact HKI.out _ QI.out.2) | (with_reducible exact HKI.out _ QS.out.2) | (with_reducible exact HKI.out _ QV.out.2) | (with_reducible exact HKI.out _ QD.out.2) | (with_reducible exact HKI.out _ QU.out.2) | (with_reducible exact HKI.out _ (Below.refl _ _).drew) | exact HKI.out _ (Below.refl _ _))
      (first
        | (go_at_call 35; refine (rInt_any l _ (by have := HL.out; omega)).mono ?_; rintro e wn ⟨bi, rfl, hf, l1⟩; have hbw : Below w1.heap.size w1 wn := (by first | exact QX.out.2.trans (l1.mono QX.out.2.size) | exact QS.out.2.trans (l1.mono QS.out.2.size) | exact QV.out.2.trans (l1.mono QV.out.2.size) | exact QD.out.2.trans (l1.mono QD.out.2.size)); (try replace QX : Hid (FracR wn p1 V t ∧ Below w1.heap.size w1 wn) := ⟨QX.out.1.below l1, hbw⟩); (try replace QS : Hid (FracR wn bs (l * t - V) t ∧ Below w1.heap.size w1 wn) := ⟨QS.out.1.below l1, hbw⟩); (try replace QV : Hid (FracR wn bv n t ∧ Below w1.heap.size w1 wn) := ⟨QV.out.1.below l1, hbw⟩); (try replace QD : Hid (Frac wn bd ((l * t - V) * t) (t * n) ∧ Below w1.heap.size w1 wn) := ⟨QD.out.1.below l1, hbw⟩); have QI : Hid (FracR wn bi l 1 ∧ Below w1.heap.size w1 wn) := ⟨hf, hbw⟩; clear hf l1 hbw)
        | (go_at_call 38; refine (rSpeed_any n t _ (by have := HN.out; omega) (by have := HN.out; omega)).mono ?_; rintro e wn ⟨bv, rfl, hf, l1⟩; have hbw : Below w1.heap.size w1 wn := (by first | exact QX.out.2.trans (l1.mono QX.out.2.size) | exact QI.out.2.trans (l1.mono QI.out.2.size) | exact QS.out.2.trans (l1.mono QS.out.2.size) | exact QD.out.2.trans (l1.mono QD.out.2.size)); (try replace QX : Hid (FracR wn p1 V t ∧ Below w1.heap.size w1 wn) := ⟨QX.out.1.below l1, hbw⟩); (try replace QI : Hid (FracR wn bi l 1 ∧ Below w1.heap.size w1 wn) := ⟨QI.out.1.below l1, hbw⟩); (try replace QS : Hid (FracR wn bs (l * t - V) t ∧ Below w1.heap.size w1 wn) := ⟨QS.out.1.below l1, hbw⟩); (try replace QD : Hid (Frac wn bd ((l * t - V) * t) (t * n) ∧ Below w1.heap.size w1 wn) := ⟨QD.out.1.below l1, hbw⟩); have QV : Hid (FracR wn bv n t ∧ Below w1.heap.size w1 wn) := ⟨hf, hbw⟩; clear hf l1 hbw)
        | (go_at_call 41; refine (gSub_any bi p1 V l t _ QI.out.1 QX.out.1 HVB.out HL.out HN.out.2.1).mono ?_; rintro e wn ⟨bs, rfl, hf, l1⟩; have hbw : Below w1.heap.size w1 wn := (by first | exact QX.out.2.trans (l1.mono QX.out.2.size) | exact QI.out.2.trans (l1.mono QI.out.2.size) | exact QV.out.2.trans (l1.mono QV.out.2.size) | exact QD.out.2.trans (l1.mono QD.out.2.size)); (try replace QX : Hid (FracR wn p1 V t ∧ Below w1.heap.size w1 wn) := ⟨QX.out.1.below l1, hbw⟩); (try replace QI : Hid (FracR wn bi l 1 ∧ Below w1.heap.size w1 wn) := ⟨QI.out.1.below l1, hbw⟩); (try replace QV : Hid (FracR wn bv n t ∧ Below w1.heap.size w1 wn) := ⟨QV.out.1.below l1, hbw⟩); (try replace QD : Hid (Frac wn bd ((l * t - V) * t) (t * n) ∧ Below w1.heap.size w1 wn) := ⟨QD.out.1.below l1, hbw⟩); have QS : Hid (FracR wn bs (l * t - V) t ∧ Below w1.heap.size w1 wn) := ⟨hf, hbw⟩; clear hf l1 hbw)
        | (go_at_call 56; refine (gDiv_any bs bv (l * t - V) n t _ QS.out.1 QV.out.1 HDB.out HN.out.1 HN.out.2.1).mono ?_; rintro e wn ⟨bd, rfl, hf, l1⟩; have hbw : Below w1.heap.size w1 wn := (by first | exact QX.out.2.trans (l1.mono QX.out.2.size) | exact QI.out.2.trans (l1.mono QI.out.2.size) | exact QS.out.2.trans (l1.mono QS.out.2.size) | exact QV.out.2.trans (l1.mono QV.out.2.size)); (try replace QX : Hid (FracR wn p1 V t ∧ Below w1.heap.size w1 wn) := ⟨QX.out.1.below l1, hbw⟩); (try replace QI : Hid (FracR wn bi l 1 ∧ Below w1.heap.size w1 wn) := ⟨QI.out.1.below l1, hbw⟩); (try replace QS : Hid (FracR wn bs (l * t - V) t ∧ Below w1.heap.size w1 wn) := ⟨QS.out.1.below l1, hbw⟩); (try replace QV : Hid (FracR wn bv n t ∧ Below w1.heap.size w1 wn) := ⟨QV.out.1.below l1, hbw⟩); have QD : Hid (Frac wn bd ((l * t - V) * t) (t * n) ∧ Below w1.heap.size w1 wn) := ⟨hf, hbw⟩; clear hf l1 hbw)
        | (go_at_call 55; refine (up_any bd ((l * t - V) * t) (t * n) _ QD.out.1 HQP.out HUB.out.1 HUB.out.2).mono ?_; rw [HCE.out]; rintro e wn ⟨rfl, l1⟩; have QU : Hid (Below w1.heap.size w1 wn) := QD.out.2.trans (l1.mono QD.out.2.size); clear l1))
    all_goals
      go_wp2
      go_ret2
      exact ⟨by rw [← HW2.out]; first | rfl | (simp; exact HEW.out), ⟨p1, (QU.out.block _ (lt_of_block HF1.out)).trans HF1.out, HP1.out.below QU.out⟩, HO1.out.trans (Oth.of_below QU.out)⟩
end Go.Proofs.YtnppmigncjakeaaGreatDoor
