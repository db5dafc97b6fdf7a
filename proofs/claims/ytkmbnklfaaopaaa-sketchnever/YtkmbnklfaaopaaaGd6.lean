/-
  millracekeep.SketchNever: it returns true at every argument; nothing that was there before is otherwise. Conditions: keys and others lie in memory, numbers of 64 bits.
-/
import Derived.Test.YtkmbnklfaaopaaaGd5
namespace Go.Proofs.Ytkmbnklfaaopaaa
open Go.RowKit Go.Extern.Stop Go.Stop Go.Extern

theorem drewN_assoc (w : World) (a b c : Nat) : (w.drewN (a + b)).drewN c = w.drewN (a + (b + c)) := by simp [World.drewN, Nat.add_assoc]
theorem belowOt {w W w' : World} {a c : Gp} (hb : Below w.heap.size w W) (ho : Ot (Btw a.lo c.hi) W w') (h : w.heap.size ≤ a.lo) : Below w.heap.size w w' :=
  hb.trans (ho.below hb.size (fun k hk => by unfold Btw at hk; omega))
theorem okm_cnt (C R : Nat) (f : Nat → Int) (k : Nat) (h : k ≤ 100) : Okm R C (cntM C f k) := fun r c _ _ => by have := cntM_bd C f r c k; omega
theorem okm_sum (C R : Nat) (f f2 : Nat → Int) (n k : Nat) (hn : n ≤ 100) (h : k ≤ 100) : Okm R C (fun r c => cntM C f n r c + cntM C f2 k r c) := fun r c _ _ => by have := cntM_bd C f r c n; have := cntM_bd C f2 r c k; dsimp only; omega
set_option maxRecDepth 20000 in
set_option maxHeartbeats 8000000 in
theorem neverLaw_any (rv cv : Int) (x : Option Addr) (cap n : Nat) (f : Nat → Int) (y : Option Addr) (ycap m : Nat) (f2 : Nat → Int) (key : Int) (w : World) (hx : Row w x n f) (hy : Row w y m f2) (b0 : n ≤ maxLen) (b1 : m ≤ maxLen) :
    Calls Try.prog 4 #[.int .i64 rv, .int .i64 cv, .slice x n cap, .slice y m ycap, .int .i64 key] w fun e w' => e = .returned (.bool true) ∧ Below w.heap.size w w' := by
  have HX : Hid (Row w x n f) := hx
  have HY : Hid (Row w y m f2) := hy
  unfold maxLen at b0 b1
  clear hx hy
  by_cases hn : 100 < n
  · go_enter Try.func4, Try.ntmps4
    go_wp2
    go_ret
    exact ⟨rfl, Below.refl _ _⟩
  by_cases hm : 100 < m
  · go_enter Try.func4, Try.ntmps4
    go_wp2
    go_ret
    exact ⟨rfl, Below.refl _ _⟩
  clear b0 b1
  have hp1 := pickN_bd rv 8 (by omega)
  have hp2 := pickN_bd cv 1000 (by omega)
  obtain ⟨R, hRd⟩ : ∃ R : Nat, (R : Int) = 1 + pickN rv 8 := ⟨(1 + pickN rv 8).toNat, by omega⟩
  obtain ⟨C, hCd⟩ : ∃ C : Nat, (C : Int) = 1 + pickN cv 1000 := ⟨(1 + pickN cv 1000).toNat, by omega⟩
  have hR0 : 1 ≤ R := by omega
  have hR1 : R ≤ 8 := by omega
  have hC0 : 1 ≤ C := by omega
  have hC1 : C ≤ 1000 := by omega
  have ew1 : IntKind.i64.wrap (1 + pickN rv 8) = (R : Int) := by rw [IntKind.wrap_i64]; omega
  have ew2 : IntKind.i64.wrap (1 + pickN cv 1000) = (C : Int) := by rw [IntKind.wrap_i64]; omega
  clear hp1 hp2 hRd hCd
  go_enter Try.func4, Try.ntmps4
  go_wp2_with fail
  refine (pick_any rv 8 w (by omega) (by omega)).mono ?_
  rintro e w' ⟨rfl, rfl⟩
  go_wp2_with fail
  refine (pick_any cv 1000 w' (by omega) (by omega)).mono ?_
  rintro e w ⟨rfl, rfl⟩
  go_wp2_with fail
  refine (newGrid_yes R C w hR0 hR1 hC0 hC1).mono ?_
  rintro e w1 ⟨ga, va, gba, rfl, hga, hb1⟩
  have HB1 : Hid (Below w.heap.size w w1) := hb1
  have HA1 : Hid (GrS w1 ga va gba w.heap.size w1.heap.size C R (fun _ _ => 0)) := hga
  clear hga hb1 ew1 ew2
  go_wp2_with fail
  refine (newGrid_yes R C w1 hR0 hR1 hC0 hC1).mono ?_
  rintro e w2 ⟨gb, vb, gbb, rfl, hgb, hb2⟩
  have HB2 : Hid (Below w.heap.size w w2) := HB1.out.trans (hb2.mono HB1.out.size)
  have HA2 : Hid (GrS w2 ga va gba w.heap.size w1.heap.size C R (fun _ _ => 0)) := HA1.out.below hb2 (Nat.le_refl _)
  have HBB : Hid (GrS w2 gb vb gbb w1.heap.size w2.heap.size C R (fun _ _ => 0)) := hgb
  have hs2 := hb2.size
  clear hgb hb2
  go_wp2_with fail
  refine (newGrid_yes R C w2 hR0 hR1 hC0 hC1).mono ?_
  rintro e w3 ⟨gc, vc, gbc, rfl, hgc, hb3⟩
  have HG3 : Hid (G3 w3 ⟨ga, va, gba, w.heap.size, w1.heap.size⟩ ⟨gb, vb, gbb, w1.heap.size, w2.heap.size⟩ ⟨gc, vc, gbc, w2.heap.size, w3.heap.size⟩ C R (fun _ _ => 0) (fun _ _ => 0) (fun _ _ => 0)) :=
    ⟨(HA2.out.below hb3 (by show w1.heap.size ≤ w2.heap.size; omega)), HBB.out.below hb3 (Nat.le_refl _), hgc, Nat.le_refl _, Nat.le_refl _, by show w1.heap.size ≤ w2.heap.size; omega, Nat.le_refl _, hb3.size⟩
  have HB3 : Hid (Below w.heap.size w w3) := HB2.out.trans (hb3.mono HB2.out.size)
  obtain ⟨pa, hpa⟩ : ∃ p : Gp, p = ⟨ga, va, gba, w.heap.size, w1.heap.size⟩ := ⟨_, rfl⟩
  obtain ⟨pb, hpb⟩ : ∃ p : Gp, p = ⟨gb, vb, gbb, w1.heap.size, w2.heap.size⟩ := ⟨_, rfl⟩
  obtain ⟨pc, hpc⟩ : ∃ p : Gp, p = ⟨gc, vc, gbc, w2.heap.size, w3.heap.size⟩ := ⟨_, rfl⟩
  have HL : Hid (w.heap.size ≤ pa.lo ∧ pa.lo ≤ pb.lo) := ⟨by rw [hpa]; exact Nat.le_refl _, by rw [hpa, hpb]; exact HB1.out.size⟩
  rw [← hpa, ← hpb, ← hpc] at HG3
  rw [show ga = pa.g by rw [hpa], show gb = pb.g by rw [hpb], show gc = pc.g by rw [hpc]]
  clear hpa hpb hpc hgc hb3 HA2 HBB HA1 HB1 HB2 hs2
  go_wp2_with fail
  refine (sketched_any w3).mono ?_
  rintro e w4 ⟨rfl, hb4⟩
  have HG4 : Hid (G3 w4 pa pb pc C R (fun _ _ => 0) (fun _ _ => 0) (fun _ _ => 0)) := HG3.out.kept hb4
  have HB4 : Hid (Below w.heap.size w w4) := HB3.out.trans (hb4.mono HB3.out.size)
  clear hb4 HG3 HB3
  go_wp2
  go_loopw [17, 18] (fun s i wr => ∃ k : Nat, k ≤ n ∧ i = .int .i64 k ∧ s = .int .i64 (cnt f key k) ∧ G3 wr pa pb pc C R (cntM C f k) (fun _ _ => 0) (cntM C f k) ∧ Below w.heap.size w wr) (fun _ i _ => n - (intOf i).toNat)
  case atStart => exact ⟨0, Nat.zero_le _, rfl, rfl, HG4.out, HB4.out⟩
  case round =>
    obtain ⟨k, hk, rfl, rfl, hg, hbel⟩ := hrel
    have HG : Hid (G3 wr pa pb pc C R (cntM C f k) (fun _ _ => 0) (cntM C f k)) := hg
    have HB : Hid (Below w.heap.size w wr) := hbel
    clear hg hbel
    by_cases hlt : k < n
    · obtain ⟨b, off, rfl⟩ := HX.out.some (by omega)
      have c0 := (HX.out.below HB.out).at hlt
      have hcb := cnt_le f key k
      have hcn := cnt_nonneg f key k
      have HT : Hid (cnt f key (k + 1) = cnt f key k + if f k = key then 1 else 0) := rfl
      go_wp2_with fail
      refine (HG.out.addA (f k) hR0 hR1 hC0 hC1 (okm_cnt C R f k (by omega)) (A' := cntM C f (k + 1)) (fun r d hr _ => addM_cnt C f R k r d hr)).mono ?_
      rintro e w5 ⟨rfl, hg5, ho5⟩
      have HG5 : Hid (G3 w5 pa pb pc C R (cntM C f (k + 1)) (fun _ _ => 0) (cntM C f k)) := hg5
      have HB5 : Hid (Below w.heap.size w w5) := belowOt HB.out ho5 HL.out.1
      have c1 := (HX.out.below HB5.out).at hlt
      clear hg5 ho5
      go_wp2_with fail
      refine (HG5.out.addC (f k) hR0 hR1 hC0 hC1 (okm_cnt C R f k (by omega)) (D' := cntM C f (k + 1)) (fun r d hr _ => addM_cnt C f R k r d hr) HL.out.2).mono ?_
      rintro e w6 ⟨rfl, hg6, ho6⟩
      have HG6 : Hid (G3 w6 pa pb pc C R (cntM C f (k + 1)) (fun _ _ => 0) (cntM C f (k + 1))) := hg6
      have HB6 : Hid (Below w.heap.size w w6) := belowOt HB5.out ho6 HL.out.1
      have c2 := (HX.out.below HB6.out).at hlt
      clear hg6 ho6
      by_cases he : f k = key
      · have HT2 : Hid (cnt f key (k + 1) = cnt f key k + 1) := by show _ = _; rw [HT.out, if_pos he]
        have he2 : (f k == key) = true := by simpa using he
        have ew : IntKind.i64.wrap (cnt f key k + 1) = cnt f key k + 1 := by rw [IntKind.wrap_i64]; omega
        clear he HT
        go_wp2
        go_roundw
        case rel => exact ⟨k + 1, by omega, by go_num, by rw [HT2.out], HG6.out, HB6.out⟩
        case measure => simp [intOf]; omega
      · have HT2 : Hid (cnt f key (k + 1) = cnt f key k) := by show _ = _; rw [HT.out, if_neg he, Int.add_zero]
        have he2 : (f k == key) = false := by simpa using he
        clear he HT
        go_wp2
        go_roundw
        case rel => exact ⟨k + 1, by omega, by go_num, by rw [HT2.out], HG6.out, HB6.out⟩
        case measure => simp [intOf]; omega
    · obtain rfl : k = n := by omega
      have hgs := gs_bd (C := C) (key := key) (M := cntM C f k) (x := cnt f key k) (y := k) (R := R) (fun r _ => ⟨cntM_ge C f r key k, (cntM_bd C f r _ k).2⟩) hR0 R (Nat.le_refl _)
      go_wp2_with fail
      refine (guess_any _ _ _ _ _ C R _ key wr HG.out.ga hR0 hR1 hC0 hC1).mono ?_
      rintro e w5 ⟨rfl, q, rfl⟩
      generalize gsM C key (cntM C f k) R = gv at *
      have g1 : ¬ gv < cnt f key k := by omega
      have g2 : ¬ (k : Int) < gv := by omega
      have HG5 : Hid (G3 (wr.drewN q) pa pb pc C R (cntM C f k) (fun _ _ => 0) (cntM C f k)) := HG.out.drewN q
      have HB5 : Hid (Below w.heap.size w (wr.drewN q)) := below_drewN' HB.out q
      clear hgs HG HB
      generalize wr.drewN q = wz at *
      go_wp2
      go_loopw [20] (fun i wx => ∃ j : Nat, j ≤ m ∧ i = .int .i64 j ∧ G3 wx pa pb pc C R (cntM C f k) (cntM C f2 j) (fun r c => cntM C f k r c + cntM C f2 j r c) ∧ Below w.heap.size w wx) (fun i _ => m - (intOf i).toNat)
      case atStart => exact ⟨0, Nat.zero_le _, rfl, ⟨HG5.out.ga, HG5.out.gb, GrS.congr HG5.out.gc (fun r c _ _ => by simp only [cntM]; omega), HG5.out.ab, HG5.out.bc, HG5.out.b0, HG5.out.hc, HG5.out.c0⟩, HB5.out⟩
      case round =>
        clear HG5 HB5
        rename_i wq
        obtain ⟨j, hj, rfl, hg, hbel⟩ := hrel
        have HG : Hid (G3 wr pa pb pc C R (cntM C f k) (cntM C f2 j) (fun r c => cntM C f k r c + cntM C f2 j r c)) := hg
        have HB : Hid (Below w.heap.size w wr) := hbel
        clear hg hbel
        by_cases hlt : j < m
        · obtain ⟨b, off, rfl⟩ := HY.out.some (by omega)
          have c0 := (HY.out.below HB.out).at hlt
          go_wp2_with fail
          refine (HG.out.addB (f2 j) hR0 hR1 hC0 hC1 (okm_cnt C R f2 j (by omega)) (B' := cntM C f2 (j + 1)) (fun r d hr _ => addM_cnt C f2 R j r d hr) HL.out.2).mono ?_
          rintro e w5 ⟨rfl, hg5, ho5⟩
          have HG5 : Hid (G3 w5 pa pb pc C R (cntM C f k) (cntM C f2 (j + 1)) (fun r c => cntM C f k r c + cntM C f2 j r c)) := hg5
          have HB5 : Hid (Below w.heap.size w w5) := belowOt HB.out ho5 HL.out.1
          have c1 := (HY.out.below HB5.out).at hlt
          clear hg5 ho5
          go_wp2_with fail
          refine (HG5.out.addC (f2 j) hR0 hR1 hC0 hC1 (okm_sum C R f f2 k j (by omega) (by omega)) (D' := fun r c => cntM C f k r c + cntM C f2 (j + 1) r c) (fun r d hr _ => addM_sum C f2 (cntM C f k) R j r d hr) HL.out.2).mono ?_
          rintro e w6 ⟨rfl, hg6, ho6⟩
          have HG6 : Hid (G3 w6 pa pb pc C R (cntM C f k) (cntM C f2 (j + 1)) (fun r c => cntM C f k r c + cntM C f2 (j + 1) r c)) := hg6
          have HB6 : Hid (Below w.heap.size w w6) := belowOt HB5.out ho6 HL.out.1
          clear hg6 ho6
          go_wp2
          go_roundw
          case rel => exact ⟨j + 1, by omega, by go_num, HG6.out, HB6.out⟩
          case measure => simp [intOf]; omega
        · obtain rfl : j = m := by omega
          go_wp2_with fail
          refine (HG.out.merge hR0 hR1 hC0 hC1 (okm_cnt C R f k (by omega)) (okm_cnt C R f2 j (by omega))).mono ?_
          rintro e w5 ⟨rfl, hg5, ho5⟩
          have HG5 : Hid (G3 w5 pa pb pc C R (fun r c => cntM C f k r c + cntM C f2 j r c) (cntM C f2 j) (fun r c => cntM C f k r c + cntM C f2 j r c)) := hg5
          have HB5 : Hid (Below w.heap.size w w5) := belowOt HB.out ho5 HL.out.1
          clear hg5 ho5 HG HB
          go_wp2_with fail
          refine (guess_any _ _ _ _ _ C R _ key w5 HG5.out.ga hR0 hR1 hC0 hC1).mono ?_
          rintro e w6 ⟨rfl, q1, rfl⟩
          go_wp2_with fail
          refine (guess_any _ _ _ _ _ C R _ key (w5.drewN q1) (HG5.out.drewN q1).gc hR0 hR1 hC0 hC1).mono ?_
          rintro e w7 ⟨rfl, q2, rfl⟩
          go_wp2
          go_loopw [21] (fun i wx => ∃ l : Nat, l ≤ k ∧ i = .int .i64 l ∧ ∃ q, wx = w5.drewN q) (fun i _ => k - (intOf i).toNat)
          case atStart => exact ⟨0, Nat.zero_le _, rfl, _, rfl⟩
          case round =>
            obtain ⟨l, hl, rfl, q, rfl⟩ := hrel
            by_cases hll : l < k
            · obtain ⟨b, off, rfl⟩ := HX.out.some (by omega)
              have c0 := (HX.out.below HB5.out).at hll
              have HGA : Hid (∀ p, p = pa.g ∨ p = pc.g → ∀ W, (∃ q, W = w5.drewN q) → Calls Try.prog 13 #[.pointer (some ⟨p, 0, none⟩), .int .i64 (f l)] W fun e w' => e = .returned (.int .i64 (gsM C (f l) (fun r c => cntM C f k r c + cntM C f2 j r c) R)) ∧ ∃ q, w' = W.drewN q) := by
                rintro p (rfl | rfl) W ⟨q, rfl⟩
                · exact guess_any _ _ _ _ _ C R _ (f l) (w5.drewN q) (HG5.out.drewN q).ga hR0 hR1 hC0 hC1
                · exact guess_any _ _ _ _ _ C R _ (f l) (w5.drewN q) (HG5.out.drewN q).gc hR0 hR1 hC0 hC1
              generalize gsM C (f l) (fun r c => cntM C f k r c + cntM C f2 j r c) R = gv at *
              generalize pa.g = pag at *
              generalize pc.g = pcg at *
              go_wp2
              go_quiet ((go_at_call 13; refine (HGA.out _ (by first | exact Or.inl rfl | exact Or.inr rfl) _ ⟨_, rfl⟩).mono ?_; rintro e w4 ⟨rfl, q', rfl⟩; exact ⟨rfl, _, drewN_assoc _ _ _ _⟩))
              go_wp2
              go_roundw
              case rel => exact ⟨l + 1, by omega, by go_num, _, rfl⟩
              case measure => simp [intOf]; omega
            · obtain rfl : l = k := by omega
              go_wp2
              go_ret
              exact ⟨rfl, below_drewN' HB5.out _⟩
end Go.Proofs.Ytkmbnklfaaopaaa
