/-
  millraceref.One: the colors by one rate and two rooms, in memory of the call's own, at any packets that may be. Conditions: a bucket and an excess that may be; the packets lie in memory.
-/
import Derived.Test.YtdaapdpbnijefaaGreatDoorTwW
namespace Go.Proofs.YtdaapdpbnijefaaGreatDoor
open Go.RowKit Go.Extern.Stop Go.Stop Go.Extern

def colL (n t R E : Int) (xs : List It) (k : Nat) : List Int := (List.range k).map (col n t R E xs)
theorem colL_succ (n t R E : Int) (xs : List It) (k : Nat) : colL n t R E xs (k + 1) = colL n t R E xs k ++ [col n t R E xs k] := by simp [colL, List.range_succ]
theorem colL_length (n t R E : Int) (xs : List It) (k : Nat) : (colL n t R E xs k).length = k := by simp [colL]
theorem cmpZ_pos (X Y : Int) : 0 < cmpZ X Y ↔ Y < X := by
  unfold cmpZ
  split
  · constructor <;> omega
  · split
    · constructor <;> omega
    · constructor <;> omega
theorem cmpZ_ge (X Y : Int) : 0 ≤ cmpZ X Y ↔ Y ≤ X := by
  unfold cmpZ
  split
  · constructor <;> omega
  · split
    · constructor <;> omega
    · constructor <;> omega
/-- What a round carries: both fractions, what is out so far, and that nothing else turned. -/
structure OnS (w0 W1 W : World) (pa pc : Nat) (A C t : Int) (ov : Value) (l : List Int) : Prop where
  fa : FracR W pa A t
  fc : FracR W pc C t
  it : Its W ov l
  bl : Below w0.heap.size w0 W
  bw : Below W1.heap.size W1 W
theorem OnS.below {w0 W1 W W' : World} {pa pc : Nat} {A C t : Int} {ov : Value} {l : List Int} (h : OnS w0 W1 W pa pc A C t ov l) (hb : Below W.heap.size W W') : OnS w0 W1 W' pa pc A C t ov l :=
  ⟨h.fa.below hb, h.fc.below hb, Prw.below h.it hb, h.bl.trans (hb.mono h.bl.size), h.bw.trans (hb.mono h.bw.size)⟩
theorem OnS.seta {w0 W1 W : World} {pa pc pa' : Nat} {A C A' t : Int} {ov : Value} {l : List Int} (h : OnS w0 W1 W pa pc A C t ov l) (hf : FracR W pa' A' t) : OnS w0 W1 W pa' pc A' C t ov l := ⟨hf, h.fc, h.it, h.bl, h.bw⟩
theorem OnS.setc {w0 W1 W : World} {pa pc pc' : Nat} {A C C' t : Int} {ov : Value} {l : List Int} (h : OnS w0 W1 W pa pc A C t ov l) (hf : FracR W pc' C' t) : OnS w0 W1 W pa pc' A C' t ov l := ⟨h.fa, hf, h.it, h.bl, h.bw⟩

set_option maxRecDepth 100000 in
set_option maxHeartbeats 16000000 in
theorem rone_any (n t R E : Int) (x : Option Addr) (cap : Nat) (xs : List It) (w : World) (hb : okB n t R) (hE : 0 ≤ E ∧ E ≤ 1000000) (hl : okL xs) (hI : ItemsAt w x xs) :
    Calls Tryz.prog 19 #[.agg #[.int .i64 n, .int .i64 t, .int .i64 R], .int .i64 E, .slice x xs.length cap] w fun e w' => ∃ v, e = .returned v ∧ Its w' v (colL n t R E xs xs.length) ∧ Below w.heap.size w w' := by
  obtain ⟨hF, h100⟩ := hl.fine
  have HF : Hid (Fine xs) := hF
  have HI : Hid (ItemsAt w x xs) := hI
  have HN : Hid ((1 ≤ n ∧ n ≤ 1000000) ∧ (1 ≤ t ∧ t ≤ 1000000) ∧ 0 ≤ R ∧ R ≤ 1000000) := hb
  have HE : Hid (0 ≤ E ∧ E ≤ 1000000) := hE
  obtain ⟨m, hm⟩ : ∃ m, xs.length = m := ⟨_, rfl⟩
  have HM : Hid (xs.length = m) := hm
  rw [hm] at h100 ⊢
  obtain ⟨W0, HW0⟩ : ∃ W0, Hid (w.alloc (.cells #[.int .i64 n, .int .i64 t, .int .i64 R] 34) = W0) := ⟨_, rfl⟩
  have HB0 : Hid (Below w.heap.size w W0) := by show Below _ _ _; rw [← HW0.out]; exact (Below.refl _ _).alloc (Nat.le_refl _) _
  have HC0 : Hid (W0.heap[w.heap.size]? = some (.cells #[.int .i64 n, .int .i64 t, .int .i64 R] 34 (0, 0))) := by show _ = _; rw [← HW0.out]; exact heap_alloc_new _ _
  have HK : Hid (∀ W : World, Below W0.heap.size W0 W → W.cell? ⟨w.heap.size, 0, none⟩ = some (.int .i64 n) ∧ W.cell? ⟨w.heap.size, 1, none⟩ = some (.int .i64 t) ∧ W.cell? ⟨w.heap.size, 2, none⟩ = some (.int .i64 R)) := by
    intro W hW
    have h0 := (hW.block _ (lt_of_block HC0.out)).trans HC0.out
    refine ⟨?_, ?_, ?_⟩ <;> simp [World.cell?, h0]
  obtain ⟨i0, hi, hz0, hz1, hz2⟩ := info_parts infoIntB
  clear hb hl hI hF hm hE
  obtain ⟨c0, c1, c2⟩ := HK.out W0 (Below.refl _ _)
  rw [← HW0.out] at c0 c1 c2
  go_enter Tryz.func19, Tryz.ntmps19
  go_wp2_with fail
  rw [HW0.out]
  clear c0 c1 c2
  refine (rInt_any R _ (by have := HN.out; omega)).mono ?_
  rintro e w1 ⟨pa0, rfl, ha1, hb1⟩
  have HA1 : Hid (FracR w1 pa0 R 1 ∧ Below W0.heap.size W0 w1) := ⟨ha1, hb1⟩
  clear ha1 hb1
  go_wp2_with fail
  refine (rInt_any E _ (by have := HE.out; omega)).mono ?_
  rintro e w2 ⟨pc0, rfl, ha2, hb2⟩
  have HA2 : Hid (FracR w2 pa0 (R * t) t ∧ FracR w2 pc0 (E * t) t ∧ Below W0.heap.size W0 w2) := ⟨(HA1.out.1.below hb2).same HN.out.2.1.1 (by rw [Int.mul_one]), ha2.same HN.out.2.1.1 (by rw [Int.mul_one]), HA1.out.2.trans (hb2.mono HA1.out.2.size)⟩
  clear ha2 hb2 HA1
  go_wp2
  go_loopw [7, 8, 9, 10, 21] (fun av cv at_ ov i wr => ∃ (k pa pc : Nat), k ≤ m ∧ i = .int .i64 k ∧ av = .pointer (some ⟨pa, 0, none⟩) ∧ cv = .pointer (some ⟨pc, 0, none⟩) ∧ at_ = .int .i64 (bst n t R xs k).2 ∧ Hid (OnS w W0 wr pa pc (bst n t R xs k).1 (est n t R E xs k) t ov (colL n t R E xs k)) ∧ Hid (∀ b, ov.ownBlock = some b → W0.heap.size ≤ b)) (fun _ _ _ _ i _ => m - (intOf i).toNat)
  case atStart => exact ⟨0, pa0, pc0, Nat.zero_le _, rfl, rfl, rfl, rfl, ⟨HA2.out.1, HA2.out.2.1, Prw.nil _ _ _, HB0.out.trans (HA2.out.2.2.mono HB0.out.size), HA2.out.2.2⟩, fun b hb => by simp [Value.ownBlock] at hb⟩
  case round =>
    obtain ⟨k, pa, pc, hkm, rfl, rfl, rfl, rfl, HS, HSO⟩ := hrel
    have HON : Hid (∀ b, u10.ownBlock = some b → w.heap.size ≤ b) := fun b hb => Nat.le_trans HB0.out.size (HSO.out b hb)
    clear HA2
    have HBW : Hid (Below w.heap.size w W0) := HB0.out
    by_cases hlt : k < m
    · obtain ⟨y, hy⟩ : ∃ y, xs[k]? = some y := ⟨_, List.getElem?_eq_getElem (by rw [HM.out]; exact hlt)⟩
      have hfy := (HF.out k y hy).1
      have HYB : Hid ((0 ≤ y.a ∧ y.a ≤ 1000000000) ∧ 0 ≤ y.l ∧ y.l ≤ 1000000) := ⟨⟨hfy.1, hfy.2.1⟩, by omega, by omega⟩
      have hlv : 0 ≤ (bst n t R xs k).1 ∧ (bst n t R xs k).1 ≤ R * t := bst_lev HF.out HN.out.1.1 HN.out.2.1.1 HN.out.2.2.1 k (by rw [HM.out]; omega)
      have hlt0 := bst_lat (n := n) (t := t) (R := R) HF.out k (by rw [HM.out]; omega)
      have hlt1 := hlt0.2 y hy
      have hes := est_bounds (n := n) (t := t) (R := R) (E := E) HF.out HN.out.2.1.1 HE.out.1 k (by rw [HM.out]; omega)
      have hbs := bst_succ (n := n) (t := t) (R := R) hy
      have hbo := bok_at (n := n) (t := t) (R := R) hy
      have hec := est_succ (n := n) (t := t) (R := R) (E := E) hy
      have hco := col_at (n := n) (t := t) (R := R) (E := E) hy
      have HLC : Hid ((colL n t R E xs k).length = k) := colL_length _ _ _ _ _ _
      have HLS : Hid (colL n t R E xs (k + 1) = colL n t R E xs k ++ [col n t R E xs k]) := colL_succ _ _ _ _ _ _
      obtain ⟨lev, lat, hB⟩ : ∃ lev lat, bst n t R xs k = (lev, lat) := ⟨_, _, rfl⟩
      rw [hB] at hlv hlt0 hlt1 hbs hbo hec hco HS ⊢
      simp only at hlv hlt0 hlt1 hbs hbo hec hco HS ⊢
      obtain ⟨c, hc⟩ : ∃ c, est n t R E xs k = c := ⟨_, rfl⟩
      rw [hc] at hes hec hco HS
      obtain ⟨d, hd⟩ : ∃ d, y.a - lat = d := ⟨_, rfl⟩
      have HD : Hid (0 ≤ d ∧ d ≤ 1000000000) := ⟨by omega, by omega⟩
      have hwd : IntKind.i64.wrap (y.a - lat) = d := by rw [IntKind.wrap_i64]; omega
      have hg := prod_bounds (n := n) (R := d) (a := 1000000) (b := 1000000000) (by have := HN.out; omega) HN.out.1.2 (by omega) (by omega)
      have hrt := prod_bounds (n := t) (R := R) (a := 1000000) (b := 1000000) (by have := HN.out; omega) HN.out.2.1.2 (by have := HN.out; omega) (by have := HN.out; omega)
      have het := prod_bounds (n := t) (R := E) (a := 1000000) (b := 1000000) (by have := HN.out; omega) HN.out.2.1.2 (by have := HE.out; omega) (by have := HE.out; omega)
      have hlt2 := prod_bounds (n := t) (R := y.l) (a := 1000000) (b := 1000000) (by have := HN.out; omega) HN.out.2.1.2 (by have := HYB.out; omega) (by have := HYB.out; omega)
      obtain ⟨V, hV⟩ : ∃ V, lev + d * n = V := ⟨_, rfl⟩
      have HLV : Hid (lev + d * n = V) := hV
      have HVB : Hid ((0 ≤ lev ∧ lev ≤ 1000000000000) ∧ (0 ≤ d * n ∧ d * n ≤ 1000000000000000) ∧ (0 ≤ V ∧ V ≤ 2000000000000000) ∧ (0 ≤ c ∧ c ≤ 1000000000000) ∧ (0 ≤ R * t ∧ R * t ≤ 1000000000000) ∧ (0 ≤ E * t ∧ E * t ≤ 1000000000000) ∧ (0 ≤ y.l * t ∧ y.l * t ≤ 1000000000000)) := ⟨⟨by omega, by omega⟩, ⟨by omega, by omega⟩, ⟨by omega, by omega⟩, ⟨by omega, by omega⟩, ⟨by omega, by omega⟩, ⟨by omega, by omega⟩, by omega, by omega⟩
      have hpa : pas n t R lev lat y.a = if V ≤ R * t then V else R * t := by
        unfold pas
        by_cases e1 : y.a ≤ lat
        · have e2 : d = 0 := by omega
          have e3 : V = lev := by rw [← hV, e2]; omega
          rw [if_pos e1, e3, if_pos hlv.2]
        · rw [if_neg e1, hd, hV]
      have hov : ovr n t R lev lat y.a = if V ≤ R * t then 0 else V - R * t := by
        unfold ovr
        by_cases e1 : y.a ≤ lat
        · have e2 : d = 0 := by omega
          have e3 : V = lev := by rw [← hV, e2]; omega
          rw [if_pos e1, e3, if_pos hlv.2]
        · rw [if_neg e1, hd, hV]
      have hl1 : (if y.a ≤ lat then lat else y.a) = y.a := by split <;> omega
      rw [hl1] at hbs
      have HX : Hid (∀ A C : Int, pas n t R lev lat y.a = A → pou t E c (ovr n t R lev lat y.a) = C → bst n t R xs (k + 1) = (if y.l * t ≤ A then A - y.l * t else A, y.a) ∧ est n t R E xs (k + 1) = (if y.l * t ≤ A then C else if y.l * t ≤ C then C - y.l * t else C) ∧ col n t R E xs k = (if y.l * t ≤ A then 1 else if y.l * t ≤ C then 2 else 3)) := by
        intro A C e1 e2
        rw [e1] at hbs hbo
        rw [hbo, e2] at hec hco
        simp only [decide_eq_true_eq] at hec hco
        exact ⟨hbs, hec, hco⟩
      have HPV : Hid (pas n t R lev lat y.a = if V ≤ R * t then V else R * t) := hpa
      have HOV : Hid (ovr n t R lev lat y.a = if V ≤ R * t then 0 else V - R * t) := hov
      have HCE : Hid (c ≤ E * t) := hes.2
      clear hbs hbo hec hco hpa hov
      obtain ⟨yb, yo, hxe, hIt⟩ : ∃ yb yo, x = some ⟨yb, yo, none⟩ ∧ Items w yb yo xs := by
        rcases HI.out with h | ⟨b, off, e, h⟩
        · rw [h] at hy; simp at hy
        · exact ⟨b, off, e, h⟩
      subst hxe
      obtain ⟨k0, k1, k2, k3, k4⟩ := (hIt.below HS.out.bl) k y hy
      have hybl := lt_of_cell k0
      simp only at hybl
      obtain ⟨W1, HW1⟩ : ∃ W1, Hid (wr.alloc (.cells #[.int .i64 y.a, .int .i64 y.l, .int .i64 y.f, .int .i64 y.b, .int .i64 y.m] 61) = W1) := ⟨_, rfl⟩
      have HBI : Hid (Below wr.heap.size wr W1) := by show Below _ _ _; rw [← HW1.out]; exact (Below.refl _ _).alloc (Nat.le_refl _) _
      have HS1 : Hid (OnS w W0 W1 pa pc lev c t u10 (colL n t R E xs k)) := HS.out.below HBI.out
      have HKI : Hid (∀ W : World, Below W1.heap.size W1 W → (W.cell? ⟨w.heap.size, 0, none⟩ = some (.int .i64 n) ∧ W.cell? ⟨w.heap.size, 1, none⟩ = some (.int .i64 t) ∧ W.cell? ⟨w.heap.size, 2, none⟩ = some (.int .i64 R)) ∧ W.cell? ⟨wr.heap.size, 0, none⟩ = some (.int .i64 y.a) ∧ W.cell? ⟨wr.heap.size, 1, none⟩ = some (.int .i64 y.l)) := by
        intro W hW
        have hlW : wr.heap.size < W1.heap.size := by rw [← HW1.out]; simp
        refine ⟨HK.out W (HS1.out.bw.trans (hW.mono HS1.out.bw.size)), (hW.cell (by exact hlW)).trans ?_, (hW.cell (by exact hlW)).trans ?_⟩
        · rw [← HW1.out]; simp [go_sem]
        · rw [← HW1.out]; simp [go_sem]
      clear hy hfy hIt hB hc hd hV hg hrt het hlt2 hlt0 hlt1 hl1 hlv hes HS
      go_upto_region 7 with (fail)
      rw [HW1.out]
      obtain ⟨⟨g0, g1, g2⟩, g3, g4⟩ := HKI.out W1 (Below.refl _ _)
      go_cut [7] (fun a wx => ∃ p, a = .pointer (some ⟨p, 0, none⟩) ∧ Hid (OnS w W1 wx p pc V c t u10 (colL n t R E xs k)))
      case first =>
        go_region_held3 (fun W => (W.cell? ⟨w.heap.size, 0, none⟩ = some (.int .i64 n) ∧ W.cell? ⟨w.heap.size, 1, none⟩ = some (.int .i64 t) ∧ W.cell? ⟨w.heap.size, 2, none⟩ = some (.int .i64 R)) ∧ W.cell? ⟨wr.heap.size, 0, none⟩ = some (.int .i64 y.a) ∧ W.cell? ⟨wr.heap.size, 1, none⟩ = some (.int .i64 y.l)) (first | (with_reducible exact HKI.out _ QI.out.2) | (with_reducible exact HKI.out _ QP.out.2) | (with_reducible exact HKI.out _ QM.out.2) | (with_reducible exact HKI.out _ QV.out.2) | (with_reducible exact HKI.out _ ((Below.refl W1.heap.size W1).drew)) | exact HKI.out _ (Below.refl _ _))
          (first
            | (go_at_call 35; refine (rInt_any d _ (by have := HD.out; omega)).mono ?_; rintro e wn ⟨bi, rfl, hf, l⟩; have hbw : Below W1.heap.size W1 wn := (by first | exact QP.out.2.trans (l.mono QP.out.2.size) | exact QM.out.2.trans (l.mono QM.out.2.size) | exact QV.out.2.trans (l.mono QV.out.2.size) | exact Below.trans ((Below.refl W1.heap.size W1).drew) (l.mono (Below.size ((Below.refl W1.heap.size W1).drew)))); (try replace QP : Hid (FracR wn bp n t ∧ Below W1.heap.size W1 wn) := ⟨QP.out.1.below l, hbw⟩); (try replace QM : Hid (FracR wn bm (d * n) t ∧ Below W1.heap.size W1 wn) := ⟨QM.out.1.below l, hbw⟩); (try replace QV : Hid (FracR wn bv V t ∧ Below W1.heap.size W1 wn) := ⟨QV.out.1.below l, hbw⟩); have QI : Hid (FracR wn bi d 1 ∧ Below W1.heap.size W1 wn) := ⟨hf, hbw⟩; clear hf l hbw)
            | (go_at_call 38; refine (rSpeed_any n t _ (by have := HN.out; omega) (by have := HN.out; omega)).mono ?_; rintro e wn ⟨bp, rfl, hf, l⟩; have hbw : Below W1.heap.size W1 wn := (by first | exact QI.out.2.trans (l.mono QI.out.2.size) | exact QM.out.2.trans (l.mono QM.out.2.size) | exact QV.out.2.trans (l.mono QV.out.2.size) | exact Below.trans ((Below.refl W1.heap.size W1).drew) (l.mono (Below.size ((Below.refl W1.heap.size W1).drew)))); (try replace QI : Hid (FracR wn bi d 1 ∧ Below W1.heap.size W1 wn) := ⟨QI.out.1.below l, hbw⟩); (try replace QM : Hid (FracR wn bm (d * n) t ∧ Below W1.heap.size W1 wn) := ⟨QM.out.1.below l, hbw⟩); (try replace QV : Hid (FracR wn bv V t ∧ Below W1.heap.size W1 wn) := ⟨QV.out.1.below l, hbw⟩); have QP : Hid (FracR wn bp n t ∧ Below W1.heap.size W1 wn) := ⟨hf, hbw⟩; clear hf l hbw)
            | (go_at_call 37; refine (fMul_any bi bp d n t _ QI.out.1 QP.out.1 HD.out HN.out.1 HN.out.2.1).mono ?_; rintro e wn ⟨bm, rfl, hf, l⟩; have hbw : Below W1.heap.size W1 wn := (by first | exact QI.out.2.trans (l.mono QI.out.2.size) | exact QP.out.2.trans (l.mono QP.out.2.size) | exact QV.out.2.trans (l.mono QV.out.2.size) | exact Below.trans ((Below.refl W1.heap.size W1).drew) (l.mono (Below.size ((Below.refl W1.heap.size W1).drew)))); (try replace QI : Hid (FracR wn bi d 1 ∧ Below W1.heap.size W1 wn) := ⟨QI.out.1.below l, hbw⟩); (try replace QP : Hid (FracR wn bp n t ∧ Below W1.heap.size W1 wn) := ⟨QP.out.1.below l, hbw⟩); (try replace QV : Hid (FracR wn bv V t ∧ Below W1.heap.size W1 wn) := ⟨QV.out.1.below l, hbw⟩); have QM : Hid (FracR wn bm (d * n) t ∧ Below W1.heap.size W1 wn) := ⟨hf, hbw⟩; clear hf l hbw)
            | (go_at_call 36; refine (fAdd_any pa bm lev (d * n) t _ (HS1.out.fa.below QM.out.2) QM.out.1 (by have := HVB.out; omega) (by have := HVB.out; omega) HN.out.2.1).mono ?_; rw [HLV.out]; rintro e wn ⟨bv, rfl, hf, l⟩; have hbw : Below W1.heap.size W1 wn := (by first | exact QI.out.2.trans (l.mono QI.out.2.size) | exact QP.out.2.trans (l.mono QP.out.2.size) | exact QM.out.2.trans (l.mono QM.out.2.size) | exact Below.trans ((Below.refl W1.heap.size W1).drew) (l.mono (Below.size ((Below.refl W1.heap.size W1).drew)))); (try replace QI : Hid (FracR wn bi d 1 ∧ Below W1.heap.size W1 wn) := ⟨QI.out.1.below l, hbw⟩); (try replace QP : Hid (FracR wn bp n t ∧ Below W1.heap.size W1 wn) := ⟨QP.out.1.below l, hbw⟩); (try replace QM : Hid (FracR wn bm (d * n) t ∧ Below W1.heap.size W1 wn) := ⟨QM.out.1.below l, hbw⟩); have QV : Hid (FracR wn bv V t ∧ Below W1.heap.size W1 wn) := ⟨hf, hbw⟩; clear hf l hbw))
        all_goals
          go_wp2
          go_meet
          case rel =>
            have h := HS1.out.below QV.out.2
            exact ⟨bv, rfl, ⟨QV.out.1, h.fc, h.it, h.bl, QV.out.2⟩⟩
      case rest =>
      obtain ⟨pv, rfl, HS2⟩ := hcut
      clear g0 g1 g2 g3 g4
      obtain ⟨⟨g0, g1, g2⟩, g3, g4⟩ := HKI.out wc HS2.out.bw
      go_wp2_with fail
      refine (rInt_any R _ (by have := HN.out; omega)).mono ?_
      rintro e w3 ⟨b3, rfl, hf3, hb3⟩
      have HS3 : Hid (OnS w W1 w3 pv pc V c t u10 (colL n t R E xs k)) := HS2.out.below hb3
      have HF3 : Hid (FracR w3 b3 R 1) := hf3
      clear hf3 hb3 g0 g1 g2 g3 g4
      go_wp2_with fail
      refine (fCmp_any pv b3 V R t _ HS3.out.fa HF3.out (by have := HVB.out; omega) HN.out.2.2 HN.out.2.1).mono ?_
      obtain ⟨cz, HCZ⟩ : ∃ cz, Hid (cmpZ V (R * t) = cz) := ⟨_, rfl⟩
      rw [HCZ.out]
      rintro e w4 ⟨rfl, hb4⟩
      have HS4 : Hid (OnS w W1 w4 pv pc V c t u10 (colL n t R E xs k)) := HS3.out.below hb4
      clear hb4 HS2 HS3 HF3
      obtain ⟨⟨g0, g1, g2⟩, g3, g4⟩ := HKI.out w4 HS4.out.bw
      by_cases hvr : V ≤ R * t
      · have hcz : ¬ 0 < cz := by rw [← HCZ.out]; exact fun h => absurd ((cmpZ_pos _ _).1 h) (by omega)
        have HPA : Hid (pas n t R lev lat y.a = V) := by show _ = _; rw [HPV.out, if_pos hvr]
        have HPO : Hid (pou t E c (ovr n t R lev lat y.a) = c) := by
          show _ = _
          rw [HOV.out, if_pos hvr]
          unfold pou
          rw [Int.add_zero, if_pos HCE.out]
        have HCB : Hid (0 ≤ c ∧ c ≤ 1000000000000000000) := ⟨by have := HVB.out; omega, by have := HVB.out; omega⟩
        clear hvr g0 g1 g2 g3 g4
        obtain ⟨⟨g0, g1, g2⟩, g3, g4⟩ := HKI.out w4 HS4.out.bw
        go_wp2_with fail
        refine (rInt_any y.l _ (by have := HYB.out; omega)).mono ?_
        rintro e w7 ⟨pn, rfl, hf7, hb7⟩
        have HS7 : Hid (OnS w W1 w7 pv pc V c t u10 (colL n t R E xs k)) := HS4.out.below hb7
        have HF7 : Hid (FracR w7 pn y.l 1) := hf7
        clear g0 g1 g2 g3 g4 hf7 hb7
        go_wp2_with fail
        refine (fCmp_any pv pn V y.l t _ HS7.out.fa HF7.out (by have := HVB.out; omega) HYB.out.2 HN.out.2.1).mono ?_
        obtain ⟨ca, HCA⟩ : ∃ ca, Hid (cmpZ V (y.l * t) = ca) := ⟨_, rfl⟩
        rw [HCA.out]
        rintro e w8 ⟨rfl, hb8⟩
        have HS8 : Hid (OnS w W1 w8 pv pc V c t u10 (colL n t R E xs k)) := HS7.out.below hb8
        have HF8 : Hid (FracR w8 pn y.l 1) := HF7.out.below hb8
        clear hb8 HS7 HF7
        by_cases h1 : y.l * t ≤ V
        · have hca : 0 ≤ ca := by rw [← HCA.out]; exact (cmpZ_ge _ _).2 h1
          have HB : Hid (bst n t R xs (k + 1) = (V - y.l * t, y.a) ∧ est n t R E xs (k + 1) = c ∧ col n t R E xs k = 1) := by
            have := HX.out V c HPA.out HPO.out
            rw [if_pos h1, if_pos h1, if_pos h1] at this
            exact this
          clear h1
          go_wp2_with fail
          refine (fSub_any pv pn V y.l t _ HS8.out.fa HF8.out (by have := HVB.out; omega) HYB.out.2 HN.out.2.1).mono ?_
          rintro e w9 ⟨pa9, rfl, hf9, hb9⟩
          have HS9 : Hid (OnS w W1 w9 pa9 pc (V - y.l * t) c t u10 (colL n t R E xs k)) := (HS8.out.below hb9).seta hf9
          clear hf9 hb9
          go_wp2_with (at_builtin; refine wpList_append_prw (K := isI) _ rfl (.tmp 71) (.tmp 72) 43 rfl 3 i0 _ 8 Tryz.underlying43 hi hz0 hz1 hz2 rfl ⟨0, rfl⟩ _ _ rfl (Prw.below HS9.out.it ((Below.refl _ _).alloc (Nat.le_refl _) _)) ⟨w9.heap.size, 0, none⟩ 1 (.int .i64 1) rfl (by simp) rfl ⟨_, rfl⟩ (by simp [HLC.out]; unfold maxLen; omega) (by simp [HLC.out]; omega) ?_; intro v8 wz hs8 hg8 ha8)
          go_roundw
          case rel =>
            have hA8 : Below w9.heap.size w9 (w9.alloc (.cells #[.int .i64 1] 3)) := (Below.refl _ _).alloc (Nat.le_refl _) _
            have hwt := HS9.out.bl.size
            have hw0 := HBW.out.size
            have hwb := HS9.out.bw.size
            have hz1 := HS1.out.bw.size
            refine ⟨k + 1, pa9, pc, by omega, by go_num, rfl, rfl, by rw [HB.out.1], ⟨?_, ?_, ?_, ?_, ?_⟩, ?_⟩
            · rw [HB.out.1]; exact HS9.out.fa.grown hA8 HS9.out.it hg8 isI_slice isI_u32
            · rw [HB.out.2.1]; exact HS9.out.fc.grown hA8 HS9.out.it hg8 isI_slice isI_u32
            · unfold Its; rw [HLS.out, List.map_append, HB.out.2.2]; exact hs8
            · exact (HS9.out.bl.trans (hA8.mono hwt)).grown hg8 (by simp; omega) HON.out
            · exact ((HS1.out.bw.trans (HS9.out.bw.mono HS1.out.bw.size)).trans (hA8.mono (by omega))).grown hg8 (by simp; omega) HSO.out
            · intro b hb
              rcases ha8 with h | h
              · exact HSO.out b (h ▸ hb)
              · rw [h] at hb; simp at hb; omega
          case measure => simp [intOf]; omega
        · have hca : ¬ 0 ≤ ca := by rw [← HCA.out]; exact fun h => h1 ((cmpZ_ge _ _).1 h)
          have H1 : Hid (V < y.l * t) := Int.not_le.1 h1
          clear h1
          go_wp2_with fail
          refine (fCmp_any pc pn c y.l t _ HS8.out.fc HF8.out HCB.out HYB.out.2 HN.out.2.1).mono ?_
          obtain ⟨cc, HCC⟩ : ∃ cc, Hid (cmpZ c (y.l * t) = cc) := ⟨_, rfl⟩
          rw [HCC.out]
          rintro e w9 ⟨rfl, hb9⟩
          have HS9 : Hid (OnS w W1 w9 pv pc V c t u10 (colL n t R E xs k)) := HS8.out.below hb9
          have HF9 : Hid (FracR w9 pn y.l 1) := HF8.out.below hb9
          clear hb9 HS8 HF8
          by_cases h2 : y.l * t ≤ c
          · have hcc : 0 ≤ cc := by rw [← HCC.out]; exact (cmpZ_ge _ _).2 h2
            have HB : Hid (bst n t R xs (k + 1) = (V, y.a) ∧ est n t R E xs (k + 1) = c - y.l * t ∧ col n t R E xs k = 2) := by
              have := HX.out V c HPA.out HPO.out
              rw [if_neg (Int.not_le.2 H1.out), if_neg (Int.not_le.2 H1.out), if_neg (Int.not_le.2 H1.out), if_pos h2, if_pos h2] at this
              exact this
            clear h2
            go_wp2_with fail
            refine (fSub_any pc pn c y.l t _ HS9.out.fc HF9.out HCB.out HYB.out.2 HN.out.2.1).mono ?_
            rintro e w10 ⟨pc9, rfl, hf10, hb10⟩
            have HS10 : Hid (OnS w W1 w10 pv pc9 V (c - y.l * t) t u10 (colL n t R E xs k)) := (HS9.out.below hb10).setc hf10
            clear hf10 hb10
            go_wp2_with (at_builtin; refine wpList_append_prw (K := isI) _ rfl (.tmp 82) (.tmp 83) 43 rfl 3 i0 _ 8 Tryz.underlying43 hi hz0 hz1 hz2 rfl ⟨0, rfl⟩ _ _ rfl (Prw.below HS10.out.it ((Below.refl _ _).alloc (Nat.le_refl _) _)) ⟨w10.heap.size, 0, none⟩ 1 (.int .i64 2) rfl (by simp) rfl ⟨_, rfl⟩ (by simp [HLC.out]; unfold maxLen; omega) (by simp [HLC.out]; omega) ?_; intro v8 wz hs8 hg8 ha8)
            go_roundw
            case rel =>
              have hA8 : Below w10.heap.size w10 (w10.alloc (.cells #[.int .i64 2] 3)) := (Below.refl _ _).alloc (Nat.le_refl _) _
              have hwt := HS10.out.bl.size
              have hw0 := HBW.out.size
              have hwb := HS10.out.bw.size
              have hz1 := HS1.out.bw.size
              refine ⟨k + 1, pv, pc9, by omega, by go_num, rfl, rfl, by rw [HB.out.1], ⟨?_, ?_, ?_, ?_, ?_⟩, ?_⟩
              · rw [HB.out.1]; exact HS10.out.fa.grown hA8 HS10.out.it hg8 isI_slice isI_u32
              · rw [HB.out.2.1]; exact HS10.out.fc.grown hA8 HS10.out.it hg8 isI_slice isI_u32
              · unfold Its; rw [HLS.out, List.map_append, HB.out.2.2]; exact hs8
              · exact (HS10.out.bl.trans (hA8.mono hwt)).grown hg8 (by simp; omega) HON.out
              · exact ((HS1.out.bw.trans (HS10.out.bw.mono HS1.out.bw.size)).trans (hA8.mono (by omega))).grown hg8 (by simp; omega) HSO.out
              · intro b hb
                rcases ha8 with h | h
                · exact HSO.out b (h ▸ hb)
                · rw [h] at hb; simp at hb; omega
            case measure => simp [intOf]; omega
          · have hcc : ¬ 0 ≤ cc := by rw [← HCC.out]; exact fun h => h2 ((cmpZ_ge _ _).1 h)
            have HB : Hid (bst n t R xs (k + 1) = (V, y.a) ∧ est n t R E xs (k + 1) = c ∧ col n t R E xs k = 3) := by
              have := HX.out V c HPA.out HPO.out
              rw [if_neg (Int.not_le.2 H1.out), if_neg (Int.not_le.2 H1.out), if_neg (Int.not_le.2 H1.out), if_neg h2, if_neg h2] at this
              exact this
            clear h2
            go_wp2_with (at_builtin; refine wpList_append_prw (K := isI) _ rfl (.tmp 60) (.tmp 61) 43 rfl 3 i0 _ 8 Tryz.underlying43 hi hz0 hz1 hz2 rfl ⟨0, rfl⟩ _ _ rfl (Prw.below HS9.out.it ((Below.refl _ _).alloc (Nat.le_refl _) _)) ⟨w9.heap.size, 0, none⟩ 1 (.int .i64 3) rfl (by simp) rfl ⟨_, rfl⟩ (by simp [HLC.out]; unfold maxLen; omega) (by simp [HLC.out]; omega) ?_; intro v8 wz hs8 hg8 ha8)
            go_roundw
            case rel =>
              have hA8 : Below w9.heap.size w9 (w9.alloc (.cells #[.int .i64 3] 3)) := (Below.refl _ _).alloc (Nat.le_refl _) _
              have hwt := HS9.out.bl.size
              have hw0 := HBW.out.size
              have hwb := HS9.out.bw.size
              have hz1 := HS1.out.bw.size
              refine ⟨k + 1, pv, pc, by omega, by go_num, rfl, rfl, by rw [HB.out.1], ⟨?_, ?_, ?_, ?_, ?_⟩, ?_⟩
              · rw [HB.out.1]; exact HS9.out.fa.grown hA8 HS9.out.it hg8 isI_slice isI_u32
              · rw [HB.out.2.1]; exact HS9.out.fc.grown hA8 HS9.out.it hg8 isI_slice isI_u32
              · unfold Its; rw [HLS.out, List.map_append, HB.out.2.2]; exact hs8
              · exact (HS9.out.bl.trans (hA8.mono hwt)).grown hg8 (by simp; omega) HON.out
              · exact ((HS1.out.bw.trans (HS9.out.bw.mono HS1.out.bw.size)).trans (hA8.mono (by omega))).grown hg8 (by simp; omega) HSO.out
              · intro b hb
                rcases ha8 with h | h
                · exact HSO.out b (h ▸ hb)
                · rw [h] at hb; simp at hb; omega
            case measure => simp [intOf]; omega
      · have hcz : 0 < cz := by rw [← HCZ.out]; exact (cmpZ_pos _ _).2 (by omega)
        have HPA : Hid (pas n t R lev lat y.a = R * t) := by show _ = _; rw [HPV.out, if_neg hvr]
        have HPO : Hid (pou t E c (ovr n t R lev lat y.a) = (if c + (V - R * t) ≤ E * t then c + (V - R * t) else E * t)) := by
          show _ = _
          rw [HOV.out, if_neg hvr]
          rfl
        have HVR : Hid (R * t < V) := by show _ < _; omega
        have HVC : Hid ((0 ≤ V - R * t ∧ V - R * t ≤ 2000000000000000) ∧ 0 ≤ c + (V - R * t) ∧ c + (V - R * t) ≤ 1000000000000000000) := ⟨⟨by have := HVB.out; omega, by have := HVB.out; omega⟩, by have := HVB.out; omega, by have := HVB.out; omega⟩
        have HCB : Hid (0 ≤ (if c + (V - R * t) ≤ E * t then c + (V - R * t) else E * t) ∧ (if c + (V - R * t) ≤ E * t then c + (V - R * t) else E * t) ≤ 1000000000000000000) := by
          show _ ∧ _
          have := HVB.out
          have := HVC.out
          split <;> constructor <;> omega
        have QB : Hid (Below w4.heap.size w4 w4.drew) := (Below.refl _ _).drew
        have QX : Hid (FracR w4.drew pv V t ∧ Below W1.heap.size W1 w4.drew) := ⟨HS4.out.fa.below (Below.refl _ _).drew, HS4.out.bw.drew⟩
        have QC : Hid (FracR w4.drew pc c t ∧ Below W1.heap.size W1 w4.drew) := ⟨HS4.out.fc.below (Below.refl _ _).drew, HS4.out.bw.drew⟩
        clear hvr
        go_upto_region 10 with (fail)
        go_cut [8] (fun a wx => ∃ p, a = .pointer (some ⟨p, 0, none⟩) ∧ Hid (OnS w W1 wx pv p V (if c + (V - R * t) ≤ E * t then c + (V - R * t) else E * t) t u10 (colL n t R E xs k)))
        case first =>
          go_region_held3 (fun W => (W.cell? ⟨w.heap.size, 0, none⟩ = some (.int .i64 n) ∧ W.cell? ⟨w.heap.size, 1, none⟩ = some (.int .i64 t) ∧ W.cell? ⟨w.heap.size, 2, none⟩ = some (.int .i64 R)) ∧ W.cell? ⟨wr.heap.size, 0, none⟩ = some (.int .i64 y.a) ∧ W.cell? ⟨wr.heap.size, 1, none⟩ = some (.int .i64 y.l)) (first | (with_reducible exact HKI.out _ QX.out.2) | (with_reducible exact HKI.out _ QC.out.2) | (with_reducible exact HKI.out _ QE.out.2) | (with_reducible exact HKI.out _ QR.out.2) | (with_reducible exact HKI.out _ QS.out.2) | (with_reducible exact HKI.out _ QA.out.2) | (with_reducible exact HKI.out _ QL.out.2) | (with_reducible exact HKI.out _ ((HS4.out.bw).drew)) | exact HKI.out _ (Below.refl _ _))
            (first
              | (go_at_call 35; refine (rInt_any E _ (by have := HE.out; omega)).mono ?_; rintro e wn ⟨be, rfl, hf, l⟩; have hbw : Below W1.heap.size W1 wn := (by first | exact QX.out.2.trans (l.mono QX.out.2.size) | exact QC.out.2.trans (l.mono QC.out.2.size) | exact QR.out.2.trans (l.mono QR.out.2.size) | exact QS.out.2.trans (l.mono QS.out.2.size) | exact QA.out.2.trans (l.mono QA.out.2.size) | exact QL.out.2.trans (l.mono QL.out.2.size) | exact Below.trans ((HS4.out.bw).drew) (l.mono (Below.size ((HS4.out.bw).drew)))); (replace QB : Hid (Below w4.heap.size w4 wn) := QB.out.trans (l.mono QB.out.size)); (try replace QX : Hid (FracR wn pv V t ∧ Below W1.heap.size W1 wn) := ⟨QX.out.1.below l, hbw⟩); (try replace QC : Hid (FracR wn pc c t ∧ Below W1.heap.size W1 wn) := ⟨QC.out.1.below l, hbw⟩); (try replace QR : Hid (FracR wn br R 1 ∧ Below W1.heap.size W1 wn) := ⟨QR.out.1.below l, hbw⟩); (try replace QS : Hid (FracR wn bs (V - R * t) t ∧ Below W1.heap.size W1 wn) := ⟨QS.out.1.below l, hbw⟩); (try replace QA : Hid (FracR wn ba (c + (V - R * t)) t ∧ Below W1.heap.size W1 wn) := ⟨QA.out.1.below l, hbw⟩); (try replace QL : Hid (FracR wn bl (if c + (V - R * t) ≤ E * t then c + (V - R * t) else E * t) t ∧ Below W1.heap.size W1 wn) := ⟨QL.out.1.below l, hbw⟩); have QE : Hid (FracR wn be E 1 ∧ Below W1.heap.size W1 wn) := ⟨hf, hbw⟩; clear hf l hbw)
              | (go_at_call 35; refine (rInt_any R _ (by have := HN.out; omega)).mono ?_; rintro e wn ⟨br, rfl, hf, l⟩; have hbw : Below W1.heap.size W1 wn := (by first | exact QX.out.2.trans (l.mono QX.out.2.size) | exact QC.out.2.trans (l.mono QC.out.2.size) | exact QE.out.2.trans (l.mono QE.out.2.size) | exact QS.out.2.trans (l.mono QS.out.2.size) | exact QA.out.2.trans (l.mono QA.out.2.size) | exact QL.out.2.trans (l.mono QL.out.2.size) | exact Below.trans ((HS4.out.bw).drew) (l.mono (Below.size ((HS4.out.bw).drew)))); (replace QB : Hid (Below w4.heap.size w4 wn) := QB.out.trans (l.mono QB.out.size)); (try replace QX : Hid (FracR wn pv V t ∧ Below W1.heap.size W1 wn) := ⟨QX.out.1.below l, hbw⟩); (try replace QC : Hid (FracR wn pc c t ∧ Below W1.heap.size W1 wn) := ⟨QC.out.1.below l, hbw⟩); (try replace QE : Hid (FracR wn be E 1 ∧ Below W1.heap.size W1 wn) := ⟨QE.out.1.below l, hbw⟩); (try replace QS : Hid (FracR wn bs (V - R * t) t ∧ Below W1.heap.size W1 wn) := ⟨QS.out.1.below l, hbw⟩); (try replace QA : Hid (FracR wn ba (c + (V - R * t)) t ∧ Below W1.heap.size W1 wn) := ⟨QA.out.1.below l, hbw⟩); (try replace QL : Hid (FracR wn bl (if c + (V - R * t) ≤ E * t then c + (V - R * t) else E * t) t ∧ Below W1.heap.size W1 wn) := ⟨QL.out.1.below l, hbw⟩); have QR : Hid (FracR wn br R 1 ∧ Below W1.heap.size W1 wn) := ⟨hf, hbw⟩; clear hf l hbw)
              | (go_at_call 41; refine (fSub_any pv br V R t _ QX.out.1 QR.out.1 (by have := HVB.out; omega) HN.out.2.2 HN.out.2.1).mono ?_; rintro e wn ⟨bs, rfl, hf, l⟩; have hbw : Below W1.heap.size W1 wn := (by first | exact QX.out.2.trans (l.mono QX.out.2.size) | exact QC.out.2.trans (l.mono QC.out.2.size) | exact QE.out.2.trans (l.mono QE.out.2.size) | exact QR.out.2.trans (l.mono QR.out.2.size) | exact QA.out.2.trans (l.mono QA.out.2.size) | exact QL.out.2.trans (l.mono QL.out.2.size) | exact Below.trans ((HS4.out.bw).drew) (l.mono (Below.size ((HS4.out.bw).drew)))); (replace QB : Hid (Below w4.heap.size w4 wn) := QB.out.trans (l.mono QB.out.size)); (try replace QX : Hid (FracR wn pv V t ∧ Below W1.heap.size W1 wn) := ⟨QX.out.1.below l, hbw⟩); (try replace QC : Hid (FracR wn pc c t ∧ Below W1.heap.size W1 wn) := ⟨QC.out.1.below l, hbw⟩); (try replace QE : Hid (FracR wn be E 1 ∧ Below W1.heap.size W1 wn) := ⟨QE.out.1.below l, hbw⟩); (try replace QR : Hid (FracR wn br R 1 ∧ Below W1.heap.size W1 wn) := ⟨QR.out.1.below l, hbw⟩); (try replace QA : Hid (FracR wn ba (c + (V - R * t)) t ∧ Below W1.heap.size W1 wn) := ⟨QA.out.1.below l, hbw⟩); (try replace QL : Hid (FracR wn bl (if c + (V - R * t) ≤ E * t then c + (V - R * t) else E * t) t ∧ Below W1.heap.size W1 wn) := ⟨QL.out.1.below l, hbw⟩); have QS : Hid (FracR wn bs (V - R * t) t ∧ Below W1.heap.size W1 wn) := ⟨hf, hbw⟩; clear hf l hbw)
              | (go_at_call 36; refine (fAdd_any pc bs c (V - R * t) t _ QC.out.1 QS.out.1 (by have := HVB.out; omega) (by have := HVC.out; omega) HN.out.2.1).mono ?_; rintro e wn ⟨ba, rfl, hf, l⟩; have hbw : Below W1.heap.size W1 wn := (by first | exact QX.out.2.trans (l.mono QX.out.2.size) | exact QC.out.2.trans (l.mono QC.out.2.size) | exact QE.out.2.trans (l.mono QE.out.2.size) | exact QR.out.2.trans (l.mono QR.out.2.size) | exact QS.out.2.trans (l.mono QS.out.2.size) | exact QL.out.2.trans (l.mono QL.out.2.size) | exact Below.trans ((HS4.out.bw).drew) (l.mono (Below.size ((HS4.out.bw).drew)))); (replace QB : Hid (Below w4.heap.size w4 wn) := QB.out.trans (l.mono QB.out.size)); (try replace QX : Hid (FracR wn pv V t ∧ Below W1.heap.size W1 wn) := ⟨QX.out.1.below l, hbw⟩); (try replace QC : Hid (FracR wn pc c t ∧ Below W1.heap.size W1 wn) := ⟨QC.out.1.below l, hbw⟩); (try replace QE : Hid (FracR wn be E 1 ∧ Below W1.heap.size W1 wn) := ⟨QE.out.1.below l, hbw⟩); (try replace QR : Hid (FracR wn br R 1 ∧ Below W1.heap.size W1 wn) := ⟨QR.out.1.below l, hbw⟩); (try replace QS : Hid (FracR wn bs (V - R * t) t ∧ Below W1.heap.size W1 wn) := ⟨QS.out.1.below l, hbw⟩); (try replace QL : Hid (FracR wn bl (if c + (V - R * t) ≤ E * t then c + (V - R * t) else E * t) t ∧ Below W1.heap.size W1 wn) := ⟨QL.out.1.below l, hbw⟩); have QA : Hid (FracR wn ba (c + (V - R * t)) t ∧ Below W1.heap.size W1 wn) := ⟨hf, hbw⟩; clear hf l hbw)
              | (go_at_call 40; refine (fLesser_any be ba E (c + (V - R * t)) t _ QE.out.1 QA.out.1 HE.out (by have := HVC.out; omega) HN.out.2.1).mono ?_; rintro e wn ⟨bl, rfl, hf, l⟩; have hbw : Below W1.heap.size W1 wn := (by first | exact QX.out.2.trans (l.mono QX.out.2.size) | exact QC.out.2.trans (l.mono QC.out.2.size) | exact QE.out.2.trans (l.mono QE.out.2.size) | exact QR.out.2.trans (l.mono QR.out.2.size) | exact QS.out.2.trans (l.mono QS.out.2.size) | exact QA.out.2.trans (l.mono QA.out.2.size) | exact Below.trans ((HS4.out.bw).drew) (l.mono (Below.size ((HS4.out.bw).drew)))); (replace QB : Hid (Below w4.heap.size w4 wn) := QB.out.trans (l.mono QB.out.size)); (try replace QX : Hid (FracR wn pv V t ∧ Below W1.heap.size W1 wn) := ⟨QX.out.1.below l, hbw⟩); (try replace QC : Hid (FracR wn pc c t ∧ Below W1.heap.size W1 wn) := ⟨QC.out.1.below l, hbw⟩); (try replace QE : Hid (FracR wn be E 1 ∧ Below W1.heap.size W1 wn) := ⟨QE.out.1.below l, hbw⟩); (try replace QR : Hid (FracR wn br R 1 ∧ Below W1.heap.size W1 wn) := ⟨QR.out.1.below l, hbw⟩); (try replace QS : Hid (FracR wn bs (V - R * t) t ∧ Below W1.heap.size W1 wn) := ⟨QS.out.1.below l, hbw⟩); (try replace QA : Hid (FracR wn ba (c + (V - R * t)) t ∧ Below W1.heap.size W1 wn) := ⟨QA.out.1.below l, hbw⟩); have QL : Hid (FracR wn bl (if c + (V - R * t) ≤ E * t then c + (V - R * t) else E * t) t ∧ Below W1.heap.size W1 wn) := ⟨hf, hbw⟩; clear hf l hbw))
          all_goals
            go_wp2
            go_meet
            case rel => exact ⟨bl, rfl, ⟨QX.out.1, QL.out.1, Prw.below HS4.out.it (QB.out), HS4.out.bl.trans (QB.out.mono HS4.out.bl.size), QL.out.2⟩⟩
        case rest =>
        obtain ⟨pc5, rfl, HS5⟩ := hcut
        clear QX QC g0 g1 g2 g3 g4
        obtain ⟨⟨g0, g1, g2⟩, g3, g4⟩ := HKI.out wc HS5.out.bw
        go_wp2_with fail
        refine (rInt_any R _ (by have := HN.out; omega)).mono ?_
        rintro e w6 ⟨pa6, rfl, hf6, hb6⟩
        have HS6 : Hid (OnS w W1 w6 pa6 pc5 (R * t) (if c + (V - R * t) ≤ E * t then c + (V - R * t) else E * t) t u10 (colL n t R E xs k)) := (HS5.out.below hb6).seta (hf6.same HN.out.2.1.1 (by rw [Int.mul_one]))
        clear hf6 hb6 g0 g1 g2 g3 g4 HS5 HS4
        obtain ⟨⟨g0, g1, g2⟩, g3, g4⟩ := HKI.out w6 HS6.out.bw
        go_wp2_with fail
        refine (rInt_any y.l _ (by have := HYB.out; omega)).mono ?_
        rintro e w7 ⟨pn, rfl, hf7, hb7⟩
        have HS7 : Hid (OnS w W1 w7 pa6 pc5 (R * t) (if c + (V - R * t) ≤ E * t then c + (V - R * t) else E * t) t u10 (colL n t R E xs k)) := HS6.out.below hb7
        have HF7 : Hid (FracR w7 pn y.l 1) := hf7
        clear g0 g1 g2 g3 g4 hf7 hb7
        go_wp2_with fail
        refine (fCmp_any pa6 pn (R * t) y.l t _ HS7.out.fa HF7.out (by have := HVB.out; omega) HYB.out.2 HN.out.2.1).mono ?_
        obtain ⟨ca, HCA⟩ : ∃ ca, Hid (cmpZ (R * t) (y.l * t) = ca) := ⟨_, rfl⟩
        rw [HCA.out]
        rintro e w8 ⟨rfl, hb8⟩
        have HS8 : Hid (OnS w W1 w8 pa6 pc5 (R * t) (if c + (V - R * t) ≤ E * t then c + (V - R * t) else E * t) t u10 (colL n t R E xs k)) := HS7.out.below hb8
        have HF8 : Hid (FracR w8 pn y.l 1) := HF7.out.below hb8
        clear hb8 HS7 HF7
        by_cases h1 : y.l * t ≤ (R * t)
        · have hca : 0 ≤ ca := by rw [← HCA.out]; exact (cmpZ_ge _ _).2 h1
          have HB : Hid (bst n t R xs (k + 1) = ((R * t) - y.l * t, y.a) ∧ est n t R E xs (k + 1) = (if c + (V - R * t) ≤ E * t then c + (V - R * t) else E * t) ∧ col n t R E xs k = 1) := by
            have := HX.out (R * t) (if c + (V - R * t) ≤ E * t then c + (V - R * t) else E * t) HPA.out HPO.out
            rw [if_pos h1, if_pos h1, if_pos h1] at this
            exact this
          clear h1
          go_wp2_with fail
          refine (fSub_any pa6 pn (R * t) y.l t _ HS8.out.fa HF8.out (by have := HVB.out; omega) HYB.out.2 HN.out.2.1).mono ?_
          rintro e w9 ⟨pa9, rfl, hf9, hb9⟩
          have HS9 : Hid (OnS w W1 w9 pa9 pc5 ((R * t) - y.l * t) (if c + (V - R * t) ≤ E * t then c + (V - R * t) else E * t) t u10 (colL n t R E xs k)) := (HS8.out.below hb9).seta hf9
          clear hf9 hb9
          go_wp2_with (at_builtin; refine wpList_append_prw (K := isI) _ rfl (.tmp 71) (.tmp 72) 43 rfl 3 i0 _ 8 Tryz.underlying43 hi hz0 hz1 hz2 rfl ⟨0, rfl⟩ _ _ rfl (Prw.below HS9.out.it ((Below.refl _ _).alloc (Nat.le_refl _) _)) ⟨w9.heap.size, 0, none⟩ 1 (.int .i64 1) rfl (by simp) rfl ⟨_, rfl⟩ (by simp [HLC.out]; unfold maxLen; omega) (by simp [HLC.out]; omega) ?_; intro v8 wz hs8 hg8 ha8)
          go_roundw
          case rel =>
            have hA8 : Below w9.heap.size w9 (w9.alloc (.cells #[.int .i64 1] 3)) := (Below.refl _ _).alloc (Nat.le_refl _) _
            have hwt := HS9.out.bl.size
            have hw0 := HBW.out.size
            have hwb := HS9.out.bw.size
            have hz1 := HS1.out.bw.size
            refine ⟨k + 1, pa9, pc5, by omega, by go_num, rfl, rfl, by rw [HB.out.1], ⟨?_, ?_, ?_, ?_, ?_⟩, ?_⟩
            · rw [HB.out.1]; exact HS9.out.fa.grown hA8 HS9.out.it hg8 isI_slice isI_u32
            · rw [HB.out.2.1]; exact HS9.out.fc.grown hA8 HS9.out.it hg8 isI_slice isI_u32
            · unfold Its; rw [HLS.out, List.map_append, HB.out.2.2]; exact hs8
            · exact (HS9.out.bl.trans (hA8.mono hwt)).grown hg8 (by simp; omega) HON.out
            · exact ((HS1.out.bw.trans (HS9.out.bw.mono HS1.out.bw.size)).trans (hA8.mono (by omega))).grown hg8 (by simp; omega) HSO.out
            · intro b hb
              rcases ha8 with h | h
              · exact HSO.out b (h ▸ hb)
              · rw [h] at hb; simp at hb; omega
          case measure => simp [intOf]; omega
        · have hca : ¬ 0 ≤ ca := by rw [← HCA.out]; exact fun h => h1 ((cmpZ_ge _ _).1 h)
          have H1 : Hid ((R * t) < y.l * t) := Int.not_le.1 h1
          clear h1
          go_wp2_with fail
          refine (fCmp_any pc5 pn (if c + (V - R * t) ≤ E * t then c + (V - R * t) else E * t) y.l t _ HS8.out.fc HF8.out HCB.out HYB.out.2 HN.out.2.1).mono ?_
          obtain ⟨cc, HCC⟩ : ∃ cc, Hid (cmpZ (if c + (V - R * t) ≤ E * t then c + (V - R * t) else E * t) (y.l * t) = cc) := ⟨_, rfl⟩
          rw [HCC.out]
          rintro e w9 ⟨rfl, hb9⟩
          have HS9 : Hid (OnS w W1 w9 pa6 pc5 (R * t) (if c + (V - R * t) ≤ E * t then c + (V - R * t) else E * t) t u10 (colL n t R E xs k)) := HS8.out.below hb9
          have HF9 : Hid (FracR w9 pn y.l 1) := HF8.out.below hb9
          clear hb9 HS8 HF8
          by_cases h2 : y.l * t ≤ (if c + (V - R * t) ≤ E * t then c + (V - R * t) else E * t)
          · have hcc : 0 ≤ cc := by rw [← HCC.out]; exact (cmpZ_ge _ _).2 h2
            have HB : Hid (bst n t R xs (k + 1) = ((R * t), y.a) ∧ est n t R E xs (k + 1) = (if c + (V - R * t) ≤ E * t then c + (V - R * t) else E * t) - y.l * t ∧ col n t R E xs k = 2) := by
              have := HX.out (R * t) (if c + (V - R * t) ≤ E * t then c + (V - R * t) else E * t) HPA.out HPO.out
              rw [if_neg (Int.not_le.2 H1.out), if_neg (Int.not_le.2 H1.out), if_neg (Int.not_le.2 H1.out), if_pos h2, if_pos h2] at this
              exact this
            clear h2
            go_wp2_with fail
            refine (fSub_any pc5 pn (if c + (V - R * t) ≤ E * t then c + (V - R * t) else E * t) y.l t _ HS9.out.fc HF9.out HCB.out HYB.out.2 HN.out.2.1).mono ?_
            rintro e w10 ⟨pc9, rfl, hf10, hb10⟩
            have HS10 : Hid (OnS w W1 w10 pa6 pc9 (R * t) ((if c + (V - R * t) ≤ E * t then c + (V - R * t) else E * t) - y.l * t) t u10 (colL n t R E xs k)) := (HS9.out.below hb10).setc hf10
            clear hf10 hb10
            go_wp2_with (at_builtin; refine wpList_append_prw (K := isI) _ rfl (.tmp 82) (.tmp 83) 43 rfl 3 i0 _ 8 Tryz.underlying43 hi hz0 hz1 hz2 rfl ⟨0, rfl⟩ _ _ rfl (Prw.below HS10.out.it ((Below.refl _ _).alloc (Nat.le_refl _) _)) ⟨w10.heap.size, 0, none⟩ 1 (.int .i64 2) rfl (by simp) rfl ⟨_, rfl⟩ (by simp [HLC.out]; unfold maxLen; omega) (by simp [HLC.out]; omega) ?_; intro v8 wz hs8 hg8 ha8)
            go_roundw
            case rel =>
              have hA8 : Below w10.heap.size w10 (w10.alloc (.cells #[.int .i64 2] 3)) := (Below.refl _ _).alloc (Nat.le_refl _) _
              have hwt := HS10.out.bl.size
              have hw0 := HBW.out.size
              have hwb := HS10.out.bw.size
              have hz1 := HS1.out.bw.size
              refine ⟨k + 1, pa6, pc9, by omega, by go_num, rfl, rfl, by rw [HB.out.1], ⟨?_, ?_, ?_, ?_, ?_⟩, ?_⟩
              · rw [HB.out.1]; exact HS10.out.fa.grown hA8 HS10.out.it hg8 isI_slice isI_u32
              · rw [HB.out.2.1]; exact HS10.out.fc.grown hA8 HS10.out.it hg8 isI_slice isI_u32
              · unfold Its; rw [HLS.out, List.map_append, HB.out.2.2]; exact hs8
              · exact (HS10.out.bl.trans (hA8.mono hwt)).grown hg8 (by simp; omega) HON.out
              · exact ((HS1.out.bw.trans (HS10.out.bw.mono HS1.out.bw.size)).trans (hA8.mono (by omega))).grown hg8 (by simp; omega) HSO.out
              · intro b hb
                rcases ha8 with h | h
                · exact HSO.out b (h ▸ hb)
                · rw [h] at hb; simp at hb; omega
            case measure => simp [intOf]; omega
          · have hcc : ¬ 0 ≤ cc := by rw [← HCC.out]; exact fun h => h2 ((cmpZ_ge _ _).1 h)
            have HB : Hid (bst n t R xs (k + 1) = ((R * t), y.a) ∧ est n t R E xs (k + 1) = (if c + (V - R * t) ≤ E * t then c + (V - R * t) else E * t) ∧ col n t R E xs k = 3) := by
              have := HX.out (R * t) (if c + (V - R * t) ≤ E * t then c + (V - R * t) else E * t) HPA.out HPO.out
              rw [if_neg (Int.not_le.2 H1.out), if_neg (Int.not_le.2 H1.out), if_neg (Int.not_le.2 H1.out), if_neg h2, if_neg h2] at this
              exact this
            clear h2
            go_wp2_with (at_builtin; refine wpList_append_prw (K := isI) _ rfl (.tmp 60) (.tmp 61) 43 rfl 3 i0 _ 8 Tryz.underlying43 hi hz0 hz1 hz2 rfl ⟨0, rfl⟩ _ _ rfl (Prw.below HS9.out.it ((Below.refl _ _).alloc (Nat.le_refl _) _)) ⟨w9.heap.size, 0, none⟩ 1 (.int .i64 3) rfl (by simp) rfl ⟨_, rfl⟩ (by simp [HLC.out]; unfold maxLen; omega) (by simp [HLC.out]; omega) ?_; intro v8 wz hs8 hg8 ha8)
            go_roundw
            case rel =>
              have hA8 : Below w9.heap.size w9 (w9.alloc (.cells #[.int .i64 3] 3)) := (Below.refl _ _).alloc (Nat.le_refl _) _
              have hwt := HS9.out.bl.size
              have hw0 := HBW.out.size
              have hwb := HS9.out.bw.size
              have hz1 := HS1.out.bw.size
              refine ⟨k + 1, pa6, pc5, by omega, by go_num, rfl, rfl, by rw [HB.out.1], ⟨?_, ?_, ?_, ?_, ?_⟩, ?_⟩
              · rw [HB.out.1]; exact HS9.out.fa.grown hA8 HS9.out.it hg8 isI_slice isI_u32
              · rw [HB.out.2.1]; exact HS9.out.fc.grown hA8 HS9.out.it hg8 isI_slice isI_u32
              · unfold Its; rw [HLS.out, List.map_append, HB.out.2.2]; exact hs8
              · exact (HS9.out.bl.trans (hA8.mono hwt)).grown hg8 (by simp; omega) HON.out
              · exact ((HS1.out.bw.trans (HS9.out.bw.mono HS1.out.bw.size)).trans (hA8.mono (by omega))).grown hg8 (by simp; omega) HSO.out
              · intro b hb
                rcases ha8 with h | h
                · exact HSO.out b (h ▸ hb)
                · rw [h] at hb; simp at hb; omega
            case measure => simp [intOf]; omega
    · obtain rfl : k = m := by omega
      go_wp2
      go_ret
      exact ⟨_, rfl, HS.out.it, HS.out.bl⟩
end Go.Proofs.YtdaapdpbnijefaaGreatDoor
