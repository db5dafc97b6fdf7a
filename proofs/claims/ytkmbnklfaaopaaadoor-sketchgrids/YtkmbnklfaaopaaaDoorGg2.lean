/-
  millracelaw.SketchGrids returns true at every argument; nothing that was there before is otherwise. Conditions: the keys lie in memory, and errors.errorType holds its handle.
-/
import Derived.Test.YtkmbnklfaaopaaaDoorGg1
import Derived.Test.YtkmbnklfaaopaaaDoorLwE
namespace Go.Proofs.YtkmbnklfaaopaaaDoor
open Go.RowKit Go.Extern.Stop Go.Stop Go.Extern

set_option maxRecDepth 20000 in
set_option maxHeartbeats 4000000 in
theorem gridsBad_any (rv cv : Int) (x : Option Addr) (cap n : Nat) (key : Int) (w : World) (hL : Laid w) (hn : ¬ 200 < n) (h : rv < 1 ∨ 8 < rv ∨ cv < 1 ∨ 1000 < cv) :
    Calls Tryd.prog 4 #[.int .i64 rv, .int .i64 cv, .slice x n cap, .int .i64 key] w fun e w' => e = .returned (.bool true) ∧ Below w.heap.size w w' := by
  have HN : Hid (Calls Tryd.prog 12 #[.int .i64 rv, .int .i64 cv] w fun e w' => e = .returned (.tuple #[.pointer none, .iface 24 (.int .i64 2)]) ∧ w' = w) := newGrid_no rv cv w h
  have HL : Hid (Laid w) := hL
  clear hL
  by_cases h1 : rv < 1
  · go_enter Tryd.func4, Tryd.ntmps4
    go_wp2_with fail
    refine HN.out.mono ?_
    rintro e w1 ⟨rfl, rfl⟩
    go_wp2_with fail
    refine (bare_no 2 w1 HL.out (by decide)).mono ?_
    rintro e w2 ⟨rfl, hb2⟩
    have HB2 : Hid (Below w1.heap.size w1 w2) := hb2
    clear hb2
    go_wp2_with fail
    refine (guess_nil key w2).mono ?_
    rintro e w3 ⟨rfl, rfl⟩
    go_wp2_with fail
    refine (cell_nil 0 key w3).mono ?_
    rintro e w4 ⟨rfl, rfl⟩
    go_wp2
    go_ret
    exact ⟨rfl, HB2.out⟩
  by_cases h2 : 8 < rv
  · go_enter Tryd.func4, Tryd.ntmps4
    go_wp2_with fail
    refine HN.out.mono ?_
    rintro e w1 ⟨rfl, rfl⟩
    go_wp2_with fail
    refine (bare_no 2 w1 HL.out (by decide)).mono ?_
    rintro e w2 ⟨rfl, hb2⟩
    have HB2 : Hid (Below w1.heap.size w1 w2) := hb2
    clear hb2
    go_wp2_with fail
    refine (guess_nil key w2).mono ?_
    rintro e w3 ⟨rfl, rfl⟩
    go_wp2_with fail
    refine (cell_nil 0 key w3).mono ?_
    rintro e w4 ⟨rfl, rfl⟩
    go_wp2
    go_ret
    exact ⟨rfl, HB2.out⟩
  by_cases h3 : cv < 1
  · go_enter Tryd.func4, Tryd.ntmps4
    go_wp2_with fail
    refine HN.out.mono ?_
    rintro e w1 ⟨rfl, rfl⟩
    go_wp2_with fail
    refine (bare_no 2 w1 HL.out (by decide)).mono ?_
    rintro e w2 ⟨rfl, hb2⟩
    have HB2 : Hid (Below w1.heap.size w1 w2) := hb2
    clear hb2
    go_wp2_with fail
    refine (guess_nil key w2).mono ?_
    rintro e w3 ⟨rfl, rfl⟩
    go_wp2_with fail
    refine (cell_nil 0 key w3).mono ?_
    rintro e w4 ⟨rfl, rfl⟩
    go_wp2
    go_ret
    exact ⟨rfl, HB2.out⟩
  have h4 : 1000 < cv := by omega
  go_enter Tryd.func4, Tryd.ntmps4
  go_wp2_with fail
  refine HN.out.mono ?_
  rintro e w1 ⟨rfl, rfl⟩
  go_wp2_with fail
  refine (bare_no 2 w1 HL.out (by decide)).mono ?_
  rintro e w2 ⟨rfl, hb2⟩
  have HB2 : Hid (Below w1.heap.size w1 w2) := hb2
  clear hb2
  go_wp2_with fail
  refine (guess_nil key w2).mono ?_
  rintro e w3 ⟨rfl, rfl⟩
  go_wp2_with fail
  refine (cell_nil 0 key w3).mono ?_
  rintro e w4 ⟨rfl, rfl⟩
  go_wp2
  go_ret
  exact ⟨rfl, HB2.out⟩

set_option maxRecDepth 20000 in
set_option maxHeartbeats 8000000 in
theorem gridsLaw_any (rv cv : Int) (x : Option Addr) (cap n : Nat) (f : Nat → Int) (key : Int) (w : World) (hL : Laid w) (hx : Row w x n f) (b0 : n ≤ maxLen) :
    Calls Tryd.prog 4 #[.int .i64 rv, .int .i64 cv, .slice x n cap, .int .i64 key] w fun e w' => e = .returned (.bool true) ∧ Below w.heap.size w w' := by
  unfold maxLen at b0
  by_cases hn : 200 < n
  · clear hx hL
    go_enter Tryd.func4, Tryd.ntmps4
    go_wp2
    go_ret
    exact ⟨rfl, Below.refl _ _⟩
  by_cases hbad : rv < 1 ∨ 8 < rv ∨ cv < 1 ∨ 1000 < cv
  · exact gridsBad_any rv cv x cap n key w hL hn hbad
  have HX : Hid (Row w x n f) := hx
  have HL : Hid (Laid w) := hL
  clear hx hL b0
  obtain ⟨R, rfl⟩ : ∃ R : Nat, rv = R := ⟨rv.toNat, by omega⟩
  obtain ⟨C, rfl⟩ : ∃ C : Nat, cv = C := ⟨cv.toNat, by omega⟩
  have hR0 : 1 ≤ R := by omega
  have hR1 : R ≤ 8 := by omega
  have hC0 : 1 ≤ C := by omega
  have hC1 : C ≤ 1000 := by omega
  have g1 : ¬ (R : Int) < 1 := by omega
  have g2 : ¬ 8 < (R : Int) := by omega
  have g3 : ¬ (C : Int) < 1 := by omega
  have g4 : ¬ 1000 < (C : Int) := by omega
  clear hbad
  go_enter Tryd.func4, Tryd.ntmps4
  go_wp2_with fail
  refine (newGrid_yes R C w hR0 hR1 hC0 hC1).mono ?_
  rintro e w1 ⟨g, v, gb, rfl, hg, hb1⟩
  have HG1 : Hid (GrS w1 g v gb w.heap.size w1.heap.size C R (fun _ _ => 0)) := hg
  have HB1 : Hid (Below w.heap.size w w1) := hb1
  obtain ⟨vb, voff, vcap, rfl, _, _, _⟩ := hg.rows (by omega)
  have HC1 : Hid (∀ W, (∃ M, GrS W g (.slice (some ⟨vb, voff, none⟩) R vcap) gb w.heap.size w1.heap.size C R M) → W.cell? ⟨g, 1, none⟩ = some (.slice (some ⟨vb, voff, none⟩) R vcap)) := fun W ⟨M, h⟩ => h.cells.2
  clear hg hb1
  go_wp2_with fail
  refine (cell_below g key w1).mono ?_
  rintro e w' ⟨rfl, rfl⟩
  go_wp2_with fail
  refine (cell_beyond g R vcap _ key w' (HC1.out w' ⟨_, HG1.out⟩)).mono ?_
  rintro e w2 ⟨rfl, rfl⟩
  go_wp2
  go_loopw [11] (fun i wr => ∃ k : Nat, k ≤ n ∧ i = .int .i64 k ∧ GrS wr g (.slice (some ⟨vb, voff, none⟩) R vcap) gb w.heap.size w2.heap.size C R (cntM C f k) ∧ Below w.heap.size w wr ∧ w2.heap.size ≤ wr.heap.size) (fun i _ => n - (intOf i).toNat)
  case atStart => exact ⟨0, Nat.zero_le _, rfl, HG1.out, HB1.out, Nat.le_refl _⟩
  case round =>
    obtain ⟨k, hk, rfl, hg, hbel, hsz⟩ := hrel
    have HG : Hid (GrS wr g (.slice (some ⟨vb, voff, none⟩) R vcap) gb w.heap.size w2.heap.size C R (cntM C f k)) := hg
    have HB : Hid (Below w.heap.size w wr) := hbel
    have HS : Hid (w2.heap.size ≤ wr.heap.size) := hsz
    clear hg hbel hsz
    by_cases hlt : k < n
    · obtain ⟨b, off, rfl⟩ := HX.out.some (by omega)
      have c0 := (HX.out.below HB.out).at hlt
      go_wp2_with fail
      refine (add_any _ _ _ _ _ C R _ (f k) wr HG.out hR0 hR1 hC0 hC1 (fun r c _ _ => by have := cntM_bd C f r c k; omega)).mono ?_
      rintro e w5 ⟨rfl, hg5, ho5, hs5⟩
      have HG5 : Hid (GrS w5 g (.slice (some ⟨vb, voff, none⟩) R vcap) gb w.heap.size w2.heap.size C R (cntM C f (k + 1))) := hg5.congr fun r d hr _ => addM_cnt C f R k r d hr
      have HB5 : Hid (Below w.heap.size w w5) := HB.out.trans (ho5.below HB.out.size (fun j hj => by unfold Btw at hj; omega))
      have HS5 : Hid (w2.heap.size ≤ w5.heap.size) := by show _ ≤ _; rw [hs5]; exact HS.out
      clear hg5 ho5 hs5
      go_wp2
      go_roundw
      case rel => exact ⟨k + 1, by omega, by go_num, HG5.out, HB5.out, HS5.out⟩
      case measure => simp [intOf]; omega
    · obtain rfl : k = n := by omega
      go_wp2
      go_loopw [12, 13] (fun s i wx => ∃ r : Nat, r ≤ R ∧ i = .int .i64 r ∧ s = .int .i64 (gsL C f k key r) ∧ ∃ q, wx = wr.drewN q) (fun _ i _ => R - (intOf i).toNat)
      case atStart => exact ⟨0, Nat.zero_le _, rfl, rfl, 0, rfl⟩
      case round =>
        obtain ⟨r, hr, rfl, rfl, q, rfl⟩ := hrel
        by_cases hrl : r < R
        · obtain ⟨d0, d1⟩ := HG.out.cells
          go_wp2_with fail
          refine (rcell_any C r key _ (by omega) hC0 hC1).mono ?_
          rintro e w5 ⟨rfl, rfl⟩
          go_wp2_with fail
          refine (cell_yes g _ C R r key _ (by exact d0) (by exact d1) ⟨_, _, rfl⟩ hrl hR1 hC0 hC1).mono ?_
          rintro e w6 ⟨rfl, rfl⟩
          go_wp2
          have hcl := cellN_lt (C := C) (r := r) (key := key) hC0
          have HT : Hid (gsL C f k key (r + 1) = min (gsL C f k key r) (cntM C f k r (cellN C r key))) := rfl
          have hgb := gsL_bd C f k key r
          generalize cellN C r key = cn at *
          clear d0 d1
          go_loopw [15, 16] (fun s i wx => ∃ j : Nat, j ≤ k ∧ i = .int .i64 j ∧ s = .int .i64 (cntM C f j r cn) ∧ ∃ q, wx = wr.drewN q) (fun _ i _ => k - (intOf i).toNat)
          case atStart => exact ⟨0, Nat.zero_le _, rfl, rfl, _, rfl⟩
          case round =>
            obtain ⟨j, hj, rfl, rfl, q2, rfl⟩ := hrel
            by_cases hjl : j < k
            · obtain ⟨b, off, rfl⟩ := HX.out.some (by omega)
              have c0 := (HX.out.below HB.out).at hjl
              have hcb := cntM_bd C f r cn j
              have HT2 : Hid (cntM C f (j + 1) r cn = cntM C f j r cn + if cn = cellN C r (f j) then 1 else 0) := rfl
              go_wp2_with fail
              refine (rcell_any C r (f j) _ (by omega) hC0 hC1).mono ?_
              rintro e w5 ⟨rfl, rfl⟩
              by_cases he : cn = cellN C r (f j)
              · have HT3 : Hid (cntM C f (j + 1) r cn = cntM C f j r cn + 1) := by show _ = _; rw [HT2.out, if_pos he]
                have he2 : ((cellN C r (f j) : Int) == (cn : Int)) = true := by simp [he]
                have ew : IntKind.i64.wrap (cntM C f j r cn + 1) = cntM C f j r cn + 1 := by rw [IntKind.wrap_i64]; omega
                generalize cellN C r (f j) = cm at *
                clear HT2 he
                go_wp2
                go_roundw
                case rel => exact ⟨j + 1, by omega, by go_num, by rw [HT3.out], _, rfl⟩
                case measure => simp [intOf]; omega
              · have HT3 : Hid (cntM C f (j + 1) r cn = cntM C f j r cn) := by show _ = _; rw [HT2.out, if_neg he, Int.add_zero]
                have he2 : ((cellN C r (f j) : Int) == (cn : Int)) = false := by simp; omega
                generalize cellN C r (f j) = cm at *
                clear HT2 he
                go_wp2
                go_roundw
                case rel => exact ⟨j + 1, by omega, by go_num, by rw [HT3.out], _, rfl⟩
                case measure => simp [intOf]; omega
            · obtain rfl : j = k := by omega
              go_wp2
              go_roundw
              case rel =>
                refine ⟨r + 1, by omega, by go_num, ?_, _, rfl⟩
                rw [HT.out]
                congr 1
                split <;> omega
              case measure => simp [intOf]; omega
        · obtain rfl : r = R := by omega
          have HGE : Hid (gsL C f k key r = gsM C key (cntM C f k) r) := by
            obtain ⟨r', rfl⟩ : ∃ r', r = r' + 1 := ⟨r - 1, by omega⟩
            exact gsL_eq C f k key r'
          rw [HGE.out]
          have HGQ : Hid (GrS (wr.drewN q) g (.slice (some ⟨vb, voff, none⟩) r vcap) gb w.heap.size w2.heap.size C r (cntM C f k)) := HG.out.kept (fun _ _ _ => rfl)
          have HBQ : Hid (Below w.heap.size w (wr.drewN q)) := below_drewN' HB.out q
          have HSQ : Hid (w2.heap.size ≤ (wr.drewN q).heap.size) := HS.out
          generalize wr.drewN q = wy at *
          clear HG HB HS HGE
          have ew : IntKind.i64.wrap ((C : Int) + 1) = ((C + 1 : Nat) : Int) := by rw [IntKind.wrap_i64]; omega
          by_cases hC : C < 1000
          · go_wp2_with fail
            refine (newGrid_yes r (C + 1) wy hR0 hR1 (by omega) (by omega)).mono ?_
            rintro e w5 ⟨g5, v5, gb5, rfl, hg5, hb5⟩
            obtain ⟨vb5, voff5, vcap5, rfl, _, _, _⟩ := hg5.rows (by omega)
            have HG5 : Hid (GrS w5 g5 (.slice (some ⟨vb5, voff5, none⟩) r vcap5) gb5 wy.heap.size w5.heap.size (C + 1) r (fun _ _ => 0)) := hg5
            have HGa : Hid (GrS w5 g (.slice (some ⟨vb, voff, none⟩) r vcap) gb w.heap.size w2.heap.size C r (cntM C f k)) := HGQ.out.below hb5 HSQ.out
            have HB5 : Hid (Below w.heap.size w w5) := HBQ.out.trans (hb5.mono HBQ.out.size)
            have HK5 : Hid (w2.heap.size ≤ w5.heap.size) := Nat.le_trans HSQ.out hb5.size
            clear hg5 hb5
            go_wp2_with fail
            refine (guess_any _ _ _ _ _ C r _ key w5 HGa.out hR0 hR1 hC0 hC1).mono ?_
            rintro e w6 ⟨rfl, q6, rfl⟩
            go_wp2_with fail
            refine (merge_nil g _).mono ?_
            rintro e w7 ⟨rfl, rfl⟩
            have HB6 : Hid (Below w.heap.size w (w5.drewN q6)) := below_drewN' HB5.out q6
            go_wp2_with fail
            refine (bare_no 7 _ (HL.out.below HB6.out) (by decide)).mono ?_
            rintro e w8 ⟨rfl, hb8⟩
            obtain ⟨a0, a1⟩ := (HGa.out.below ((below_drewN' (Below.refl w5.heap.size w5) q6).trans hb8) HK5.out).cells
            obtain ⟨b0, b1⟩ := (HG5.out.below ((below_drewN' (Below.refl w5.heap.size w5) q6).trans hb8) (Nat.le_refl _)).cells
            have HB8 : Hid (Below w.heap.size w w8) := HB6.out.trans (hb8.mono HB6.out.size)
            clear hb8
            go_wp2_with fail
            refine (merge_form g g5 _ _ r C (C + 1) vcap vcap5 w8 a0 a1 b0 b1 (by omega)).mono ?_
            rintro e w9 ⟨rfl, q9, rfl⟩
            have HB9 : Hid (Below w.heap.size w (w8.drewN q9)) := below_drewN' HB8.out q9
            go_wp2_with fail
            refine (bare_no 3 _ (HL.out.below HB9.out) (by decide)).mono ?_
            rintro e w10 ⟨rfl, hb10⟩
            have HB10 : Hid (Below w.heap.size w w10) := HB9.out.trans (hb10.mono HB9.out.size)
            clear hb10
            go_wp2
            go_ret
            exact ⟨rfl, HB10.out⟩
          · go_wp2_with fail
            refine (newGrid_no r ((C + 1 : Nat) : Int) wy (by omega)).mono ?_
            rintro e w5 ⟨rfl, rfl⟩
            go_wp2_with fail
            refine (guess_any _ _ _ _ _ C r _ key w5 HGQ.out hR0 hR1 hC0 hC1).mono ?_
            rintro e w6 ⟨rfl, q6, rfl⟩
            go_wp2_with fail
            refine (merge_nil g _).mono ?_
            rintro e w7 ⟨rfl, rfl⟩
            have HB6 : Hid (Below w.heap.size w (w5.drewN q6)) := below_drewN' HBQ.out q6
            go_wp2_with fail
            refine (bare_no 7 _ (HL.out.below HB6.out) (by decide)).mono ?_
            rintro e w8 ⟨rfl, hb8⟩
            have HB8 : Hid (Below w.heap.size w w8) := HB6.out.trans (hb8.mono HB6.out.size)
            clear hb8
            go_wp2
            go_ret
            exact ⟨rfl, HB8.out⟩
end Go.Proofs.YtkmbnklfaaopaaaDoor
