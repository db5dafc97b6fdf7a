/-
  The law ScedMeets returns true at any flows and any number of ticks. Conditions: the flows lie in memory, and no slice is longer than memory.
-/
import Derived.Test.YtakggmhjfghfkaaSdc
namespace Go.Proofs.Ytakggmhjfghfkaa
open Go.RowKit Go.Extern.Stop Go.Stop Go.Extern

/-- Flows that were handed in. -/
def FlArg (w : World) (x : Option Addr) (m : Nat) (F : Nat → Flw) : Prop := m = 0 ∨ ∃ b off, x = some ⟨b, off, none⟩ ∧ FlsAt w b off m F
theorem FlArg.below {w w' : World} {x : Option Addr} {m : Nat} {F : Nat → Flw} (h : FlArg w x m F) (hb : Below w.heap.size w w') : FlArg w' x m F := by
  rcases h with h | ⟨b, off, e, h⟩
  · exact Or.inl h
  · exact Or.inr ⟨b, off, e, h.below hb⟩
theorem checkA (x : Option Addr) (cap m : Nat) (F : Nat → Flw) (w : World) (hm : m ≤ maxLen) (hA : FlArg w x m F) :
    Calls Try.prog 9 #[.slice x m cap] w fun e w' => e = .returned (errV (scedE m F)) ∧ Below w.heap.size w w' := by
  rcases hA with h | ⟨b, off, rfl, h⟩
  · exact scheck_long x cap m F w hm (by omega)
  · exact scheck_any b off cap m F w hm h
def LenR (w : World) (m : Nat) (s i : Value) (wr : World) : Prop := ∃ (k : Nat) (z : Int) (q : Nat), k ≤ m ∧ i = .int .i64 k ∧ s = .int .i64 z ∧ wr = w.drewN q

/-- What the law asks of the plan. -/
theorem meets_math {m Tk : Nat} {F : Nat → Flw} (hok : FsOk m F) (h2 : Tk < rch F m) {i k : Nat} (hi : i < m) (hk : k < kF F Tk i) :
    (fitsB m F = true → 0 ≤ pF F Tk i k → 0 ≤ thr (pF F Tk) (cF F) m Tk i k ∧ thr (pF F Tk) (cF F) m Tk i k ≤ pF F Tk i k) ∧ (∀ j, k = j + 1 → 0 ≤ thr (pF F Tk) (cF F) m Tk i k → thr (pF F Tk) (cF F) m Tk i j < thr (pF F Tk) (cF F) m Tk i k) := by
  refine ⟨fun hf hd => ?_, fun j e ht => by subst e; exact thr_order ht⟩
  have hq : fitsQ m F := by
    apply Classical.byContradiction
    intro hn
    rw [fitsB_no hn] at hf
    cases hf
  have hp : ∀ i, i < m → PadOk (cF F i) := fun i hi => padOk (hok.ok i hi).come
  have hr : ∀ i, i < m → Tk < (F i).m := fun i hi => by have := rch_le (F := F) m i hi; omega
  have hedf := edf (P := pF F Tk) (c := cF F) (m := m) (b := fun i => (F i).p) (T := Tk) (fun i hi t => (hp i hi).lo t) (fun i hi t ht => (hok.ok i hi).cv.low t (by have := hr i hi; omega)) (fun i hi s t hs ht => (hok.ok i hi).cv.mono t s hs (by have := hr i hi; omega)) (fun t ht => hq t (by omega)) (fun i hi k => rfl)
  obtain ⟨g1, g2⟩ := prm_ge (cF F i) (F i).p Tk k
  obtain ⟨d, hdd⟩ : ∃ d : Nat, pF F Tk i k = d := ⟨(pF F Tk i k).toNat, by omega⟩
  have hdT : d ≤ Tk := by
    have : pF F Tk i k ≤ Tk := g2
    omega
  have hm : ∀ s t, s ≤ t → t ≤ Tk → conv (tot (cF F i)) (F i).p s ≤ conv (tot (cF F i)) (F i).p t := conv_mono (fun s t hs _ => tot_mono (c := cF F i) (n := t) (fun k _ => (hp i hi).lo k) t s hs (Nat.le_refl _)) (fun s t hs ht => (hok.ok i hi).cv.mono t s hs (by have := hr i hi; omega))
  have hdue := (prm_due (k := k) hm hdT).1 (by
    have : prm (cF F i) (F i).p Tk k = d := hdd
    omega)
  have hg := hedf d hdT i hi
  have := thr_soon (P := pF F Tk) (c := cF F) (m := m) (t := Tk) (d := d) (i := i) (k := k) hdT (by omega)
  omega

set_option maxRecDepth 20000 in
set_option maxHeartbeats 8000000 in
theorem meets_any (x : Option Addr) (cap m : Nat) (ticks : Int) (F : Nat → Flw) (w : World) (hm : m ≤ maxLen) (hA : FlArg w x m F) :
    Calls Try.prog 3 #[.slice x m cap, .int .i64 ticks] w fun e w' => e = .returned (.bool true) ∧ Below w.heap.size w w' := by
  have HA : Hid (FlArg w x m F) := hA
  have HML : Hid (m ≤ maxLen) := hm
  unfold maxLen at hm
  clear hA
  go_enter Try.func3, Try.ntmps3
  go_wp2
  go_loopw [5, 6] (fun s i wr => LenR w m s i wr) (fun _ i _ => m - (intOf i).toNat)
  case atStart => exact ⟨0, 0, 0, Nat.zero_le _, rfl, rfl, rfl⟩
  case round =>
    obtain ⟨k, z, q, hk, rfl, rfl, rfl⟩ := hrel
    by_cases hlt : k < m
    · obtain ⟨b, off, rfl, hF⟩ : ∃ b off, x = some ⟨b, off, none⟩ ∧ FlsAt w b off m F := by
        rcases HA.out with h | h
        · omega
        · exact h
      obtain ⟨c0, c1, _⟩ := hF k hlt
      clear hF
      go_wp2
      go_quiet (fail)
      go_wp2
      go_roundw
      case rel => exact ⟨k + 1, _, _, by omega, by go_num, rfl, rfl⟩
      case measure => simp [intOf]; omega
    · obtain rfl : k = m := by omega
      have HD : Hid (Below w.heap.size w (w.drewN q)) := below_drewN' (Below.refl _ _) q
      by_cases hz : 600 < z
      · go_wp2
        go_ret
        exact ⟨rfl, HD.out⟩
      by_cases hk10 : 10 < k
      · go_wp2
        go_ret
        exact ⟨rfl, HD.out⟩
      by_cases hE : scedE k F = 0
      · have hok := scedE_zero.1 hE
        obtain ⟨b, off, rfl, hF⟩ : ∃ b off, x = some ⟨b, off, none⟩ ∧ FlsAt w b off k F := by
          rcases HA.out with h | h
          · have := hok.lo; omega
          · exact h
        have HF : Hid (FlsAt w b off k F) := hF
        have HOK : Hid (FsOk k F) := hok
        have hk8 := hok.hi
        have hk1 := hok.lo
        clear hE hok hF
        by_cases hr : ticks < (F 0).n ∨ (rch F k : Int) ≤ ticks
        · have HR : Hid (ticks < (F 0).n ∨ (rch F k : Int) ≤ ticks) := hr
          clear hr
          go_wp2_with fail
          refine (sfits_any b off cap k F _ (HF.out.below HD.out) HOK.out).mono ?_
          rintro e w1 ⟨rfl, hb1⟩
          have HB1 : Hid (Below w.heap.size w w1) := below_after HD.out hb1
          clear hb1
          go_wp2_with fail
          refine (make_range b off cap k ticks F w1 (HF.out.below HB1.out) HOK.out HR.out).mono ?_
          rw [errV_not (show (2 : Int) ≠ 0 by decide)]
          rintro e w2 ⟨rfl, hb2⟩
          have HB2 : Hid (Below w.heap.size w w2) := below_after HB1.out hb2
          clear hb2
          unfold noPlan
          go_wp2_with fail
          refine (promised_true _).mono ?_
          rintro e w3 ⟨rfl, hb3⟩
          have HB3 : Hid (Below w.heap.size w w3) := below_after (below_alloc_ HB2.out _) hb3
          clear hb3
          go_wp2_with fail
          refine (promised_true _).mono ?_
          rintro e w4 ⟨rfl, hb4⟩
          have HB4 : Hid (Below w.heap.size w w4) := below_after HB3.out hb4
          clear hb4
          go_wp2
          go_ret
          exact ⟨rfl, HB4.out⟩
        · obtain ⟨Tk, rfl⟩ : ∃ Tk : Nat, ticks = Tk := ⟨ticks.toNat, by omega⟩
          have HT1 : Hid ((F 0).n ≤ Tk) := by show _ ≤ _; omega
          have HT2 : Hid (Tk < rch F k) := by show _ < _; omega
          have hT : Tk ≤ 201 := by have := rch_le (F := F) k 0 (by omega); have := (HOK.out.ok 0 (by omega)).cv.len; omega
          clear hr
          obtain ⟨fb, HFB⟩ : ∃ fb, Hid (fitsB k F = fb) := ⟨_, rfl⟩
          go_wp2_with fail
          refine (sfits_any b off cap k F _ (HF.out.below HD.out) HOK.out).mono ?_
          rw [HFB.out]
          rintro e w1 ⟨rfl, hb1⟩
          have HB1 : Hid (Below w.heap.size w w1) := below_after HD.out hb1
          clear hb1
          go_wp2_with fail
          refine (make_any b off cap k Tk F w1 (HF.out.below HB1.out) HOK.out HT1.out HT2.out).mono ?_
          rintro e w2 ⟨sv, prv, thv, rfl, hP, hb2⟩
          have HB2 : Hid (Below w.heap.size w w2) := below_after HB1.out hb2
          obtain ⟨⟨sx, sc, rfl, _, _⟩, pb, po, pc, tb, tf, tc, px, tx, pk, tk, rfl, rfl, h3⟩ := hP
          clear hb2
          go_wp2_with fail
          refine (promised_true _).mono ?_
          rintro e w3 ⟨rfl, hb3⟩
          have HB3 : Hid (Below w.heap.size w w3) := below_after (below_alloc_ HB2.out _) hb3
          have hpl : w3.heap[w2.heap.size]? = some (.cells #[.slice sx Tk sc, .slice (some ⟨pb, po, none⟩) k pc, .slice (some ⟨tb, tf, none⟩) k tc] 33 (0, 0)) := (hb3.block _ (by simp)).trans (new_block _ _)
          have H3 : Hid (∀ i, i < k → w3.cell? ⟨pb, po + i, none⟩ = some (.slice (px i) (kF F Tk i) (pk i)) ∧ w3.cell? ⟨tb, tf + i, none⟩ = some (.slice (tx i) (kF F Tk i) (tk i)) ∧ Row w3 (px i) (kF F Tk i) (pF F Tk i) ∧ Row w3 (tx i) (kF F Tk i) (thr (pF F Tk) (cF F) k Tk i)) := fun i hi => by
            obtain ⟨g1, g2, g3, g4⟩ := h3 i hi
            have hbb : Below w2.heap.size w2 w3 := below_after (below_alloc_ (Below.refl _ _) _) hb3
            exact ⟨(hbb.cell (World.block_lt_of_cell? w2 _ g1)).trans g1, (hbb.cell (World.block_lt_of_cell? w2 _ g2)).trans g2, g3.below hbb, g4.below hbb⟩
          obtain ⟨⟨k0, k1, k2⟩, _, hlp⟩ := plan_cells hpl
          obtain ⟨pq, HPQ⟩ : ∃ pq, Hid (w2.heap.size = pq) := ⟨_, rfl⟩
          rw [HPQ.out] at k0 k1 k2 hlp
          have HKF : Hid (∀ i, i < k → kF F Tk i ≤ 100) := fun i hi => ((cmOk (Tk := Tk) HOK.out).k i hi).2
          clear hb3 hpl h3
          rw [HPQ.out]
          go_wp2
          go_loopw [11] (fun i wr => ∃ j q : Nat, j ≤ k ∧ i = .int .i64 j ∧ wr = w3.drewN q) (fun i _ => k - (intOf i).toNat)
          case atStart => exact ⟨0, 0, Nat.zero_le _, rfl, rfl⟩
          case round =>
            obtain ⟨j, q, hj, rfl, rfl⟩ := hrel
            by_cases hjk : j < k
            · obtain ⟨g1, g2, g3, g4⟩ := H3.out j hjk
              have hkf := HKF.out j hjk
              have HG3 : Hid (Row w3 (px j) (kF F Tk j) (pF F Tk j)) := g3
              have HG4 : Hid (Row w3 (tx j) (kF F Tk j) (thr (pF F Tk) (cF F) k Tk j)) := g4
              clear g3 g4
              have HMM : Hid (∀ l, l < kF F Tk j → (fb = true → 0 ≤ pF F Tk j l → 0 ≤ thr (pF F Tk) (cF F) k Tk j l ∧ thr (pF F Tk) (cF F) k Tk j l ≤ pF F Tk j l) ∧ (∀ i, l = i + 1 → 0 ≤ thr (pF F Tk) (cF F) k Tk j l → thr (pF F Tk) (cF F) k Tk j i < thr (pF F Tk) (cF F) k Tk j l)) := fun l hl => by
                have := meets_math HOK.out HT2.out hjk hl
                rw [HFB.out] at this
                exact this
              generalize px j = xp at *
              generalize tx j = xt at *
              generalize pk j = cp at *
              generalize tk j = ct at *
              generalize kF F Tk j = kk at *
              generalize pF F Tk j = pj at *
              generalize thr (pF F Tk) (cF F) k Tk j = tj at *
              go_wp2
              go_quiet (fail)
              go_wp2
              go_loopw [12] (fun i wr => ∃ l q : Nat, l ≤ kk ∧ i = .int .i64 l ∧ wr = w3.drewN q) (fun i _ => kk - (intOf i).toNat)
              case atStart => exact ⟨0, _, Nat.zero_le _, rfl, by first | rfl | exact World.drewN_drewN _ _ _⟩
              case round =>
                obtain ⟨l, q1, hl, rfl, rfl⟩ := hrel
                by_cases hlk : l < kk
                · obtain ⟨bp, op, rfl⟩ := HG3.out.some (by omega)
                  obtain ⟨bt, ot, rfl⟩ := HG4.out.some (by omega)
                  have v1 := HG3.out.at hlk
                  have v2 := HG4.out.at hlk
                  obtain ⟨m1, m2⟩ := HMM.out l hlk
                  generalize pj l = d at v1 m1
                  generalize htl : tj l = t at v2 m1 m2
                  clear htl
                  cases fb with
                  | false =>
                    by_cases t0 : 0 ≤ t
                    · skip
                      cases l with
                      | zero =>
                        simp only [Nat.add_zero] at v1 v2
                        clear m1 m2
                        go_wp2
                        go_quiet (fail)
                        go_wp2
                        go_roundw
                        case rel => exact ⟨0 + 1, _, by omega, by go_num, by first | rfl | exact World.drewN_drewN _ _ _⟩
                        case measure => simp [intOf]; omega
                      | succ i =>
                        have v3 := HG4.out.at (i := i) (by omega)
                        have m3 := m2 i rfl t0
                        generalize tj i = ti at v3 m3
                        clear m1 m2
                        go_wp2
                        go_quiet (fail)
                        go_wp2
                        go_roundw
                        case rel => exact ⟨i + 1 + 1, _, by omega, by go_num, by first | rfl | exact World.drewN_drewN _ _ _⟩
                        case measure => simp [intOf]; omega
                    · clear m1 m2
                      go_wp2
                      go_quiet (fail)
                      go_wp2
                      go_roundw
                      case rel => exact ⟨l + 1, _, by omega, by go_num, by first | rfl | exact World.drewN_drewN _ _ _⟩
                      case measure => simp [intOf]; omega
                  | true =>
                    by_cases hd0 : 0 ≤ d
                    · obtain ⟨t0, td⟩ := m1 rfl hd0
                      cases l with
                      | zero =>
                        simp only [Nat.add_zero] at v1 v2
                        clear m1 m2
                        go_wp2
                        go_quiet (fail)
                        go_wp2
                        go_roundw
                        case rel => exact ⟨0 + 1, _, by omega, by go_num, by first | rfl | exact World.drewN_drewN _ _ _⟩
                        case measure => simp [intOf]; omega
                      | succ i =>
                        have v3 := HG4.out.at (i := i) (by omega)
                        have m3 := m2 i rfl t0
                        generalize tj i = ti at v3 m3
                        clear m1 m2
                        go_wp2
                        go_quiet (fail)
                        go_wp2
                        go_roundw
                        case rel => exact ⟨i + 1 + 1, _, by omega, by go_num, by first | rfl | exact World.drewN_drewN _ _ _⟩
                        case measure => simp [intOf]; omega
                    · by_cases t0 : 0 ≤ t
                      · skip
                        cases l with
                        | zero =>
                          simp only [Nat.add_zero] at v1 v2
                          clear m1 m2
                          go_wp2
                          go_quiet (fail)
                          go_wp2
                          go_roundw
                          case rel => exact ⟨0 + 1, _, by omega, by go_num, by first | rfl | exact World.drewN_drewN _ _ _⟩
                          case measure => simp [intOf]; omega
                        | succ i =>
                          have v3 := HG4.out.at (i := i) (by omega)
                          have m3 := m2 i rfl t0
                          generalize tj i = ti at v3 m3
                          clear m1 m2
                          go_wp2
                          go_quiet (fail)
                          go_wp2
                          go_roundw
                          case rel => exact ⟨i + 1 + 1, _, by omega, by go_num, by first | rfl | exact World.drewN_drewN _ _ _⟩
                          case measure => simp [intOf]; omega
                      · clear m1 m2
                        go_wp2
                        go_quiet (fail)
                        go_wp2
                        go_roundw
                        case rel => exact ⟨l + 1, _, by omega, by go_num, by first | rfl | exact World.drewN_drewN _ _ _⟩
                        case measure => simp [intOf]; omega
                · obtain rfl : l = kk := by omega
                  go_wp2
                  go_roundw
                  case rel => exact ⟨j + 1, _, by omega, by go_num, rfl⟩
                  case measure => simp [intOf]; omega
            · obtain rfl : j = k := by omega
              go_wp2
              go_ret
              exact ⟨rfl, below_drewN' HB3.out q⟩
      · have HV : Hid (errV (scedE k F) = .iface 43 (.int .i64 (scedE k F))) := errV_not hE
        have HE : Hid (scedE k F ≠ 0) := hE
        clear hE
        go_wp2_with fail
        refine (sfits_no x cap k (scedE k F) _ HE.out (checkA x cap k F _ HML.out (HA.out.below HD.out))).mono ?_
        rw [HV.out]
        rintro e w1 ⟨rfl, hb1⟩
        have HB1 : Hid (Below w.heap.size w w1) := below_after HD.out hb1
        clear hb1
        go_wp2_with fail
        refine (make_no x cap k ticks (scedE k F) w1 HE.out (fun W hW => checkA x cap k F _ HML.out (HA.out.below (below_after HB1.out hW)))).mono ?_
        rw [HV.out]
        rintro e w2 ⟨rfl, hb2⟩
        have HB2 : Hid (Below w.heap.size w w2) := below_after HB1.out hb2
        clear hb2
        unfold noPlan
        go_wp2_with fail
        refine (promised_true _).mono ?_
        rintro e w3 ⟨rfl, hb3⟩
        have HB3 : Hid (Below w.heap.size w w3) := below_after (below_alloc_ HB2.out _) hb3
        clear hb3
        go_wp2_with fail
        refine (promised_true _).mono ?_
        rintro e w4 ⟨rfl, hb4⟩
        have HB4 : Hid (Below w.heap.size w w4) := below_after HB3.out hb4
        clear hb4
        go_wp2
        go_ret
        exact ⟨rfl, HB4.out⟩
end Go.Proofs.Ytakggmhjfghfkaa
