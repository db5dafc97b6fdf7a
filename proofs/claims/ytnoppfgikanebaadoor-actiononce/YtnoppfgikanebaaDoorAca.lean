/-
  The law ActionOnce, walked. Conditions: the actions lie in memory, errors.errorType is laid.
-/
import Derived.Test.YtnoppfgikanebaaDoorAc9
namespace Go.Proofs.YtnoppfgikanebaaDoor
open Go.RowKit Go.Extern.Stop Go.Stop Go.Extern

theorem eqItem (a b c d e : Int) (w : World) : (binOp .neq 25 (.agg #[.int .i64 a, .int .i64 b, .int .i64 c, .int .i64 d, .int .i64 e]) (.agg #[.int .i64 a, .int .i64 b, .int .i64 c, .int .i64 d, .int .i64 e])).run Tryd.prog w = .ok (.bool false) w := by
  rw [run_neq_struct]
  go_simp
/-- An error that is one. -/
theorem ErrIs.shape {w : World} {v : Value} {E P : Int} (h : ErrIs w v E P) (h0 : E ≠ 0) : ∃ t u, v = .iface t u := by
  rcases h with ⟨_, h, _⟩ | ⟨rfl, _⟩ | ⟨a, rfl, _⟩
  · exact absurd h h0
  · exact ⟨_, _, rfl⟩
  · exact ⟨_, _, rfl⟩
theorem Cts.at {w : World} {g o c : Nat} {C : List Int} (h : Cts w (.slice (some ⟨g, o, none⟩) 8 c) C) {j : Nat} (hj : j < 8) : g < w.heap.size ∧ w.cell? ⟨g, o + j, none⟩ = some (.int .i64 (C.getD j 0)) := by
  obtain ⟨g', o', c', e, hg, hc⟩ := h
  simp only [Value.slice.injEq, Option.some.injEq, Addr.mk.injEq, and_true] at e
  obtain ⟨⟨rfl, rfl⟩, _⟩ := e
  exact ⟨hg, hc j hj⟩
theorem rep0 {j : Nat} (hj : j < 8) : (List.replicate 8 (0 : Int)).getD j 0 = 0 := by rw [List.getD_eq_getElem?_getD, List.getElem?_replicate, if_pos hj]; rfl
theorem it_do {w w' : World} {H0 pb xb : Nat} {av bv : Value} {ps : List Nat} {L : List Ac} {C : List Int} {B : List Bs} {x : It} (hx : ItAt w xb x) (h : PrAt w H0 pb av bv ps L C B) (ho : Ot (fun k => k = pb ∨ k ∈ ps) w w') : ItAt w' xb x := by
  refine hx.kept (ho.block _ hx.lt ?_)
  rintro (e | h')
  · exact noEqT hx h.hd (by decide) e
  · obtain ⟨cur, hc⟩ := h.stat h'
    exact noEqT hx hc (by decide) rfl
theorem cts_do {w0 w w' : World} {H0 pb : Nat} {av bv v : Value} {ps : List Nat} {L : List Ac} {C D : List Int} {B : List Bs} (hc : Cts w v D) (hv : ∀ k, v.ownBlock = some k → w0.heap.size ≤ k) (h0 : PrAt w0 H0 pb av bv ps L C B) (ho : Ot (fun k => k = pb ∨ k ∈ ps) w w') : Cts w' v D := by
  obtain ⟨g, goff, gcap, rfl, hg, hcell⟩ := hc
  refine ⟨g, goff, gcap, rfl, Nat.lt_of_lt_of_le hg ho.size, fun j hj => (ho.cell hg ?_).trans (hcell j hj)⟩
  have := hv g rfl
  rintro (e | h')
  · have h1 := h0.lt
    have e' : g = pb := e
    omega
  · have h1 := h0.fresh h'
    have h2 : g < w0.heap.size := h1
    omega
theorem once_long (px : Option Addr) (cap n : Nat) (x : It) (w : World) (hm : n ≤ maxLen) (h : 45 < n) :
    Calls Tryd.prog 4 #[.slice px n cap, .agg x.cells] w fun e w' => e = .returned (.bool true) ∧ Below w.heap.size w w' := by
  unfold maxLen at hm
  unfold It.cells
  go_enter Tryd.func4, Tryd.ntmps4
  go_wp2
  go_ret
  exact ⟨rfl, below_alloc_ (Below.refl _ _) _⟩
set_option maxRecDepth 100000 in
set_option maxHeartbeats 8000000 in
theorem once_any (px : Option Addr) (cap : Nat) (L : List Ac) (x : It) (w : World) (hL : Laid w) (hA : ArgAt Ac.cells w px L) (hn : px = none → L = [] ∧ cap = 0) (hfit : ∀ a ∈ L, a.fit) (hm : L.length ≤ maxLen) :
    Calls Tryd.prog 4 #[.slice px L.length cap, .agg x.cells] w fun e w' => e = .returned (.bool true) ∧ Below w.heap.size w w' := by
  by_cases h45 : 45 < L.length
  · exact once_long px cap L.length x w hm h45
  have HLD : Hid (Laid w) := hL
  have HA : Hid (ArgAt Ac.cells w px L) := hA
  have HNN : Hid (px = none → L = [] ∧ cap = 0) := hn
  have HFT : Hid (∀ a ∈ L, a.fit) := hfit
  obtain ⟨n, HN⟩ : ∃ n, Hid (L.length = n) := ⟨_, rfl⟩
  have HML : Hid (L.length ≤ maxLen) := hm
  rw [HN.out] at h45 ⊢
  have HXN : Hid (ItAt (w.alloc (.cells x.cells 25)) w.heap.size x) := new_block_ rfl
  have HB0 : Hid (Below w.heap.size w (w.alloc (.cells x.cells 25))) := below_alloc_ (Below.refl _ _) _
  obtain ⟨W0, HW0⟩ : ∃ W0, Hid (w.alloc (.cells x.cells 25) = W0) := ⟨_, rfl⟩
  rw [HW0.out] at HXN HB0
  clear hL hA hn hfit hm
  have HC5 : Hid (x.cells = #[.int .i64 x.a, .int .i64 x.l, .int .i64 x.f, .int .i64 x.b, .int .i64 x.m]) := rfl
  rw [HC5.out]
  rw [HC5.out] at HW0
  go_enter Tryd.func4, Tryd.ntmps4
  go_wp2
  rw [HW0.out]
  go_loopw [5] (fun i wr => ∃ k : Nat, k ≤ n ∧ i = .int .i64 k ∧ Hid (∀ j a, j < k → L[j]? = some a → FwdA j a) ∧ Hid (Below W0.heap.size W0 wr)) (fun i _ => n - (intOf i).toNat)
  case atStart => exact ⟨0, Nat.zero_le _, rfl, fun j a h => by omega, Below.refl _ _⟩
  case round =>
    obtain ⟨k, hk, rfl, HF, HB⟩ := hrel
    have HBW : Hid (Below w.heap.size w wr) := HB0.out.trans (HB.out.mono HB0.out.size)
    by_cases hlt : k < n
    · obtain ⟨a, ha⟩ : ∃ a, L[k]? = some a := ⟨_, List.getElem?_eq_getElem (by rw [HN.out]; exact hlt)⟩
      obtain ⟨ab, aoff, rfl, hab, a0, a1, a2⟩ := (HA.out.below HBW.out).acts ha
      have HG : Hid (FwdA k a → ∀ j a, j < k + 1 → L[j]? = some a → FwdA j a) := by
        intro hfw j b hj hb
        by_cases e : j = k
        · subst e
          rw [ha] at hb
          obtain rfl := Option.some.inj hb
          exact hfw
        · exact HF.out j b (by omega) hb
      clear ha
      obtain ⟨ak, aa, ab'⟩ := a
      simp only at a0 a1 a2
      by_cases q1 : ak = 9
      · subst q1
        go_wp2
        go_ret
        exact ⟨rfl, below_alloc_ HBW.out _⟩
      have q1' : (ak == 9) = false := by simpa using q1
      by_cases q2 : ak = 7
      · subst q2
        by_cases q3 : aa ≤ k
        · go_wp2
          go_ret
          exact ⟨rfl, below_alloc_ HBW.out _⟩
        · go_wp2
          go_roundw
          case rel => exact ⟨k + 1, by omega, by go_num, HG.out ⟨by simp, fun h => q3 h.2, fun h => absurd h.1 (by simp)⟩, below_alloc_ HB.out _⟩
          case measure => simp [intOf]; omega
      have q2' : (ak == 7) = false := by simpa using q2
      by_cases q4 : 8 ≤ ak
      · by_cases q5 : ab' ≤ k
        · go_wp2
          go_ret
          exact ⟨rfl, below_alloc_ HBW.out _⟩
        · go_wp2
          go_roundw
          case rel => exact ⟨k + 1, by omega, by go_num, HG.out ⟨q1, fun h => q2 h.1, fun h => q5 h.2⟩, below_alloc_ HB.out _⟩
          case measure => simp [intOf]; omega
      · go_wp2
        go_roundw
        case rel => exact ⟨k + 1, by omega, by go_num, HG.out ⟨q1, fun h => q2 h.1, fun h => q4 h.1⟩, below_alloc_ HB.out _⟩
        case measure => simp [intOf]; omega
    · obtain rfl : k = n := by omega
      rename World => wo
      have HFW : Hid (∀ i a, L[i]? = some a → FwdA i a) := fun i a h => HF.out i a (by rw [← HN.out]; exact (List.getElem?_eq_some_iff.1 h).1) h
      have HNEW := actNew_any px none cap 0 L [] wo (HA.out.below HBW.out) HNN.out HFT.out (Or.inl rfl) HML.out (Nat.zero_le _)
      rw [HN.out] at HNEW
      have HXO : Hid (ItAt wo w.heap.size x) := HXN.out.kept (HB.out.block _ HXN.out.lt)
      clear HA HNN HFT HF HXN
      go_wp2_with fail
      refine HNEW.mono ?_
      rintro e w1 ⟨hb1, ⟨h0, pb, av, bv, ps, rfl, hp⟩ | ⟨h0, v, rfl, hv⟩⟩
      · have HP : Hid (PrAt w1 wo.heap.size pb av bv ps L (List.replicate 8 0) []) := hp
        have HB1 : Hid (Below w.heap.size w w1) := below_after HBW.out hb1
        have HX1 : Hid (ItAt w1 w.heap.size x) := HXO.out.kept (hb1.block _ HXO.out.lt)
        obtain ⟨y, on, E, cnt, HE, hcn, hds⟩ := do_same L x (newE_good h0) HFW.out
        have HCN : Hid (∀ j, cnt j ≤ 100) := hcn
        have HDS : Hid (DoSame L x y on E cnt) := hds
        clear hp hb1 hcn hds HNEW
        rcases HE with rfl | rfl
        · have hE0 : errV0 0 = .nilIface := rfl
          unfold DoSame at HDS
          rw [hE0] at HDS
          clear hE0
          go_wp2_with fail
          refine (acts_any _).mono ?_
          rintro e w2 ⟨rfl, hb2⟩
          have HP2 : Hid (PrAt w2 wo.heap.size pb av bv ps L (List.replicate 8 0) []) := HP.out.below hb2
          have HX2 : Hid (ItAt w2 w.heap.size x) := HX1.out.kept (hb2.block _ HX1.out.lt)
          have HB2 : Hid (Below w.heap.size w w2) := below_after HB1.out hb2
          obtain ⟨x0, x1, x2, x3, x4⟩ := HX2.out.cell
          clear hb2 HP HX1 HB1
          go_wp2_with fail
          refine (HDS.out w2 _ _ _ _ _ _ HP2.out (fun j hj => by rw [rep0 hj]; omega)).mono ?_
          rintro e w3 ⟨rfl, C1, hp3, hc3, ho3⟩
          have HP3 : Hid (PrAt (w3.alloc (.cells y.cells 25)) wo.heap.size pb av bv ps L C1 []) := hp3.alloc _
          have HX3 : Hid (ItAt (w3.alloc (.cells y.cells 25)) w.heap.size x) := (it_do HX2.out HP2.out ho3).alloc _
          have HY3 : Hid (ItAt (w3.alloc (.cells y.cells 25)) w3.heap.size y) := new_block_ rfl
          have HB3 : Hid (Below w.heap.size w (w3.alloc (.cells y.cells 25))) := below_alloc_ (HB2.out.trans (do_below HP2.out ho3 HBW.out.size HB2.out.size)) _
          have HC3 : Hid (∀ j, j < 8 → C1.getD j 0 = cnt j) := fun j hj => by
            have := hc3 j hj
            rw [rep0 hj] at this
            omega
          obtain ⟨ya, yl, yf, yb, ym⟩ := y
          clear hp3 hc3 ho3 x0 x1 x2 x3 x4 HP2 HX2 HB2
          unfold It.cells at HP3 HX3 HY3 HB3
          obtain ⟨x0, x1, x2, x3, x4⟩ := HX3.out.cell
          unfold It.cells
          go_wp2_with fail
          refine (counts_any HP3.out).mono ?_
          rintro e w4 ⟨v4, rfl, hc4, hv4, hb4⟩
          have HP4 : Hid (PrAt w4 wo.heap.size pb av bv ps L C1 []) := HP3.out.below hb4
          have HX4 : Hid (ItAt w4 w.heap.size x) := HX3.out.kept (hb4.block _ HX3.out.lt)
          have HY4 : Hid (ItAt w4 w3.heap.size ⟨ya, yl, yf, yb, ym⟩) := HY3.out.kept (hb4.block _ HY3.out.lt)
          have HB4 : Hid (Below w.heap.size w w4) := below_after HB3.out hb4
          have HC4 : Hid (Cts w4 v4 C1) := hc4
          have HV4 : Hid (∀ k, v4.ownBlock = some k → (w3.alloc (.cells #[.int .i64 ya, .int .i64 yl, .int .i64 yf, .int .i64 yb, .int .i64 ym] 25)).heap.size ≤ k) := hv4
          clear x0 x1 x2 x3 x4 hc4 hv4 hb4 HX3 HY3 HB3
          obtain ⟨x0, x1, x2, x3, x4⟩ := HX4.out.cell
          go_wp2_with fail
          refine (HDS.out w4 _ _ _ _ _ _ HP4.out (fun j hj => by rw [HC3.out j hj]; have := HCN.out j; omega)).mono ?_
          rintro e w5 ⟨rfl, C2, hp5, hc5, ho5⟩
          have HP5 : Hid (PrAt (w5.alloc (.cells #[.int .i64 ya, .int .i64 yl, .int .i64 yf, .int .i64 yb, .int .i64 ym] 25)) wo.heap.size pb av bv ps L C2 []) := hp5.alloc _
          have HY5 : Hid (ItAt (w5.alloc (.cells #[.int .i64 ya, .int .i64 yl, .int .i64 yf, .int .i64 yb, .int .i64 ym] 25)) w3.heap.size ⟨ya, yl, yf, yb, ym⟩) := (it_do HY4.out HP4.out ho5).alloc _
          have HZ5 : Hid (ItAt (w5.alloc (.cells #[.int .i64 ya, .int .i64 yl, .int .i64 yf, .int .i64 yb, .int .i64 ym] 25)) w5.heap.size ⟨ya, yl, yf, yb, ym⟩) := new_block_ rfl
          have HC5 : Hid (Cts (w5.alloc (.cells #[.int .i64 ya, .int .i64 yl, .int .i64 yf, .int .i64 yb, .int .i64 ym] 25)) v4 C1) := (cts_do HC4.out HV4.out HP3.out ho5).below (below_alloc_ (Below.refl _ _) _)
          have HB5 : Hid (Below w.heap.size w (w5.alloc (.cells #[.int .i64 ya, .int .i64 yl, .int .i64 yf, .int .i64 yb, .int .i64 ym] 25))) := below_alloc_ (HB4.out.trans (do_below HP4.out ho5 HBW.out.size HB4.out.size)) _
          have HD5 : Hid (∀ j, j < 8 → C2.getD j 0 = 2 * C1.getD j 0 ∧ 0 ≤ C1.getD j 0 ∧ C1.getD j 0 ≤ 100) := fun j hj => by
            have h1 := hc5 j hj
            have h2 := HC3.out j hj
            have h3 := HCN.out j
            omega
          clear hp5 hc5 ho5 x0 x1 x2 x3 x4 HP4 HX4 HY4 HC4 HB4 HV4 HP3 HDS HCN HC3
          unfold It.cells
          go_wp2_with fail
          refine (counts_any HP5.out).mono ?_
          rintro e w6 ⟨v6, rfl, hc6, hv6, hb6⟩
          obtain ⟨y0, y1, y2, y3, y4⟩ := (HY5.out.kept (hb6.block _ HY5.out.lt) : ItAt w6 w3.heap.size ⟨ya, yl, yf, yb, ym⟩).cell
          obtain ⟨z0, z1, z2, z3, z4⟩ := (HZ5.out.kept (hb6.block _ HZ5.out.lt) : ItAt w6 w5.heap.size ⟨ya, yl, yf, yb, ym⟩).cell
          simp only at y0 y1 y2 y3 y4 z0 z1 z2 z3 z4
          have HB6 : Hid (Below w.heap.size w w6) := below_after HB5.out hb6
          have HQ : Hid (Cts w6 v4 C1 ∧ Cts w6 v6 C2) := ⟨HC5.out.below hb6, hc6⟩
          clear hc6 hv6 hb6 HY5 HZ5 HC5 HB5 HP5
          have hit := eqItem ya yl yf yb ym
          obtain ⟨g4, o4, c4, rfl, hg4, _⟩ := HQ.out.1
          obtain ⟨g6, o6, c6, rfl, hg6, _⟩ := HQ.out.2
          go_wp2_with (go_at_call 8; refine (tell_nil _).mono ?_; rintro e w7 ⟨rfl, rfl⟩)
          go_loopw [17] (fun i wr => ∃ k : Nat, k ≤ 8 ∧ i = .int .i64 k ∧ Hid (Cts wr (.slice (some ⟨g4, o4, none⟩) 8 c4) C1 ∧ Cts wr (.slice (some ⟨g6, o6, none⟩) 8 c6) C2) ∧ Hid (Below w.heap.size w wr)) (fun i _ => 8 - (intOf i).toNat)
          case atStart => exact ⟨0, Nat.zero_le _, rfl, HQ.out, HB6.out⟩
          case round =>
            obtain ⟨k, hk, rfl, HQR, HBR⟩ := hrel
            by_cases hlt : k < 8
            · obtain ⟨hg4, d4⟩ := HQR.out.1.at hlt
              obtain ⟨hg6, d6⟩ := HQR.out.2.at hlt
              obtain ⟨hd1, hd2, hd3⟩ := HD5.out k hlt
              rw [hd1] at d6
              have HQD : Hid (∀ n, Cts (wr.drewN n) (.slice (some ⟨g4, o4, none⟩) 8 c4) C1 ∧ Cts (wr.drewN n) (.slice (some ⟨g6, o6, none⟩) 8 c6) C2) := fun n => HQR.out
              generalize C1.getD k 0 = cv at *
              have ew : IntKind.i64.wrap (2 * cv) = 2 * cv := by rw [IntKind.wrap_i64]; omega
              go_wp2
              go_quiet (fail)
              go_wp2
              go_roundw
              case rel => exact ⟨k + 1, by omega, by go_num, HQD.out _, below_drewN HBR.out _⟩
              case measure => simp [intOf]; omega
            · obtain rfl : k = 8 := by omega
              go_wp2
              go_ret
              exact ⟨rfl, HBR.out⟩
        · have hE0 : errV0 2 = .iface 34 (.int .i64 2) := rfl
          unfold DoSame at HDS
          rw [hE0] at HDS
          clear hE0
          go_wp2_with fail
          refine (acts_any _).mono ?_
          rintro e w2 ⟨rfl, hb2⟩
          have HP2 : Hid (PrAt w2 wo.heap.size pb av bv ps L (List.replicate 8 0) []) := HP.out.below hb2
          have HX2 : Hid (ItAt w2 w.heap.size x) := HX1.out.kept (hb2.block _ HX1.out.lt)
          have HB2 : Hid (Below w.heap.size w w2) := below_after HB1.out hb2
          obtain ⟨x0, x1, x2, x3, x4⟩ := HX2.out.cell
          clear hb2 HP HX1 HB1
          go_wp2_with fail
          refine (HDS.out w2 _ _ _ _ _ _ HP2.out (fun j hj => by rw [rep0 hj]; omega)).mono ?_
          rintro e w3 ⟨rfl, C1, hp3, hc3, ho3⟩
          have HP3 : Hid (PrAt (w3.alloc (.cells y.cells 25)) wo.heap.size pb av bv ps L C1 []) := hp3.alloc _
          have HX3 : Hid (ItAt (w3.alloc (.cells y.cells 25)) w.heap.size x) := (it_do HX2.out HP2.out ho3).alloc _
          have HY3 : Hid (ItAt (w3.alloc (.cells y.cells 25)) w3.heap.size y) := new_block_ rfl
          have HB3 : Hid (Below w.heap.size w (w3.alloc (.cells y.cells 25))) := below_alloc_ (HB2.out.trans (do_below HP2.out ho3 HBW.out.size HB2.out.size)) _
          have HC3 : Hid (∀ j, j < 8 → C1.getD j 0 = cnt j) := fun j hj => by
            have := hc3 j hj
            rw [rep0 hj] at this
            omega
          obtain ⟨ya, yl, yf, yb, ym⟩ := y
          clear hp3 hc3 ho3 x0 x1 x2 x3 x4 HP2 HX2 HB2
          unfold It.cells at HP3 HX3 HY3 HB3
          obtain ⟨x0, x1, x2, x3, x4⟩ := HX3.out.cell
          unfold It.cells
          go_wp2_with fail
          refine (counts_any HP3.out).mono ?_
          rintro e w4 ⟨v4, rfl, hc4, hv4, hb4⟩
          have HP4 : Hid (PrAt w4 wo.heap.size pb av bv ps L C1 []) := HP3.out.below hb4
          have HX4 : Hid (ItAt w4 w.heap.size x) := HX3.out.kept (hb4.block _ HX3.out.lt)
          have HY4 : Hid (ItAt w4 w3.heap.size ⟨ya, yl, yf, yb, ym⟩) := HY3.out.kept (hb4.block _ HY3.out.lt)
          have HB4 : Hid (Below w.heap.size w w4) := below_after HB3.out hb4
          have HC4 : Hid (Cts w4 v4 C1) := hc4
          have HV4 : Hid (∀ k, v4.ownBlock = some k → (w3.alloc (.cells #[.int .i64 ya, .int .i64 yl, .int .i64 yf, .int .i64 yb, .int .i64 ym] 25)).heap.size ≤ k) := hv4
          clear x0 x1 x2 x3 x4 hc4 hv4 hb4 HX3 HY3 HB3
          obtain ⟨x0, x1, x2, x3, x4⟩ := HX4.out.cell
          go_wp2_with fail
          refine (HDS.out w4 _ _ _ _ _ _ HP4.out (fun j hj => by rw [HC3.out j hj]; have := HCN.out j; omega)).mono ?_
          rintro e w5 ⟨rfl, C2, hp5, hc5, ho5⟩
          have HP5 : Hid (PrAt (w5.alloc (.cells #[.int .i64 ya, .int .i64 yl, .int .i64 yf, .int .i64 yb, .int .i64 ym] 25)) wo.heap.size pb av bv ps L C2 []) := hp5.alloc _
          have HY5 : Hid (ItAt (w5.alloc (.cells #[.int .i64 ya, .int .i64 yl, .int .i64 yf, .int .i64 yb, .int .i64 ym] 25)) w3.heap.size ⟨ya, yl, yf, yb, ym⟩) := (it_do HY4.out HP4.out ho5).alloc _
          have HZ5 : Hid (ItAt (w5.alloc (.cells #[.int .i64 ya, .int .i64 yl, .int .i64 yf, .int .i64 yb, .int .i64 ym] 25)) w5.heap.size ⟨ya, yl, yf, yb, ym⟩) := new_block_ rfl
          have HC5 : Hid (Cts (w5.alloc (.cells #[.int .i64 ya, .int .i64 yl, .int .i64 yf, .int .i64 yb, .int .i64 ym] 25)) v4 C1) := (cts_do HC4.out HV4.out HP3.out ho5).below (below_alloc_ (Below.refl _ _) _)
          have HB5 : Hid (Below w.heap.size w (w5.alloc (.cells #[.int .i64 ya, .int .i64 yl, .int .i64 yf, .int .i64 yb, .int .i64 ym] 25))) := below_alloc_ (HB4.out.trans (do_below HP4.out ho5 HBW.out.size HB4.out.size)) _
          have HD5 : Hid (∀ j, j < 8 → C2.getD j 0 = 2 * C1.getD j 0 ∧ 0 ≤ C1.getD j 0 ∧ C1.getD j 0 ≤ 100) := fun j hj => by
            have h1 := hc5 j hj
            have h2 := HC3.out j hj
            have h3 := HCN.out j
            omega
          clear hp5 hc5 ho5 x0 x1 x2 x3 x4 HP4 HX4 HY4 HC4 HB4 HV4 HP3 HDS HCN HC3
          unfold It.cells
          go_wp2_with fail
          refine (counts_any HP5.out).mono ?_
          rintro e w6 ⟨v6, rfl, hc6, hv6, hb6⟩
          obtain ⟨y0, y1, y2, y3, y4⟩ := (HY5.out.kept (hb6.block _ HY5.out.lt) : ItAt w6 w3.heap.size ⟨ya, yl, yf, yb, ym⟩).cell
          obtain ⟨z0, z1, z2, z3, z4⟩ := (HZ5.out.kept (hb6.block _ HZ5.out.lt) : ItAt w6 w5.heap.size ⟨ya, yl, yf, yb, ym⟩).cell
          simp only at y0 y1 y2 y3 y4 z0 z1 z2 z3 z4
          have HB6 : Hid (Below w.heap.size w w6) := below_after HB5.out hb6
          have HQ : Hid (Cts w6 v4 C1 ∧ Cts w6 v6 C2) := ⟨HC5.out.below hb6, hc6⟩
          clear hc6 hv6 hb6 HY5 HZ5 HC5 HB5 HP5
          have hit := eqItem ya yl yf yb ym
          obtain ⟨g4, o4, c4, rfl, hg4, _⟩ := HQ.out.1
          obtain ⟨g6, o6, c6, rfl, hg6, _⟩ := HQ.out.2
          go_wp2_with fail
          refine (tell_errno 2 _ (HLD.out.below HB6.out)).mono ?_
          rintro e w7 ⟨rfl, hb⟩
          have HB7 : Hid (Below w.heap.size w w7) := below_after HB6.out hb
          have HQ' : Hid (Cts w7 (.slice (some ⟨g4, o4, none⟩) 8 c4) C1 ∧ Cts w7 (.slice (some ⟨g6, o6, none⟩) 8 c6) C2) := ⟨HQ.out.1.below hb, HQ.out.2.below hb⟩
          clear hb HQ
          have HQ : Hid (Cts w7 (.slice (some ⟨g4, o4, none⟩) 8 c4) C1 ∧ Cts w7 (.slice (some ⟨g6, o6, none⟩) 8 c6) C2) := HQ'.out
          clear HQ'
          go_wp2_with fail
          refine (tell_errno 2 _ (HLD.out.below HB7.out)).mono ?_
          rintro e w8 ⟨rfl, hb⟩
          have HB8 : Hid (Below w.heap.size w w8) := below_after HB7.out hb
          have HQ' : Hid (Cts w8 (.slice (some ⟨g4, o4, none⟩) 8 c4) C1 ∧ Cts w8 (.slice (some ⟨g6, o6, none⟩) 8 c6) C2) := ⟨HQ.out.1.below hb, HQ.out.2.below hb⟩
          clear hb HQ
          have HQ : Hid (Cts w8 (.slice (some ⟨g4, o4, none⟩) 8 c4) C1 ∧ Cts w8 (.slice (some ⟨g6, o6, none⟩) 8 c6) C2) := HQ'.out
          clear HQ'
          go_wp2_with fail
          refine (tell_errno 2 _ (HLD.out.below HB8.out)).mono ?_
          rintro e w9 ⟨rfl, hb⟩
          have HB9 : Hid (Below w.heap.size w w9) := below_after HB8.out hb
          have HQ' : Hid (Cts w9 (.slice (some ⟨g4, o4, none⟩) 8 c4) C1 ∧ Cts w9 (.slice (some ⟨g6, o6, none⟩) 8 c6) C2) := ⟨HQ.out.1.below hb, HQ.out.2.below hb⟩
          clear hb HQ
          have HQ : Hid (Cts w9 (.slice (some ⟨g4, o4, none⟩) 8 c4) C1 ∧ Cts w9 (.slice (some ⟨g6, o6, none⟩) 8 c6) C2) := HQ'.out
          clear HQ'
          go_wp2
          go_loopw [17] (fun i wr => ∃ k : Nat, k ≤ 8 ∧ i = .int .i64 k ∧ Hid (Cts wr (.slice (some ⟨g4, o4, none⟩) 8 c4) C1 ∧ Cts wr (.slice (some ⟨g6, o6, none⟩) 8 c6) C2) ∧ Hid (Below w.heap.size w wr)) (fun i _ => 8 - (intOf i).toNat)
          case atStart => exact ⟨0, Nat.zero_le _, rfl, HQ.out, HB9.out⟩
          case round =>
            obtain ⟨k, hk, rfl, HQR, HBR⟩ := hrel
            by_cases hlt : k < 8
            · obtain ⟨hg4, d4⟩ := HQR.out.1.at hlt
              obtain ⟨hg6, d6⟩ := HQR.out.2.at hlt
              obtain ⟨hd1, hd2, hd3⟩ := HD5.out k hlt
              rw [hd1] at d6
              have HQD : Hid (∀ n, Cts (wr.drewN n) (.slice (some ⟨g4, o4, none⟩) 8 c4) C1 ∧ Cts (wr.drewN n) (.slice (some ⟨g6, o6, none⟩) 8 c6) C2) := fun n => HQR.out
              generalize C1.getD k 0 = cv at *
              have ew : IntKind.i64.wrap (2 * cv) = 2 * cv := by rw [IntKind.wrap_i64]; omega
              go_wp2
              go_quiet (fail)
              go_wp2
              go_roundw
              case rel => exact ⟨k + 1, by omega, by go_num, HQD.out _, below_drewN HBR.out _⟩
              case measure => simp [intOf]; omega
            · obtain rfl : k = 8 := by omega
              go_wp2
              go_ret
              exact ⟨rfl, HBR.out⟩
      · obtain ⟨t, u, rfl⟩ := hv.shape h0
        have HB1 : Hid (Below w.heap.size w w1) := below_after HBW.out hb1
        clear hv hb1
        go_wp2_with fail
        refine (acts_any _).mono ?_
        rintro e w2 ⟨rfl, hb2⟩
        have HB2 : Hid (Below w.heap.size w w2) := below_after HB1.out hb2
        clear hb2
        go_wp2_with fail
        refine (acts_any _).mono ?_
        rintro e w3 ⟨rfl, hb3⟩
        have HB3 : Hid (Below w.heap.size w w3) := below_after HB2.out hb3
        clear hb3
        go_wp2
        go_ret
        exact ⟨rfl, HB3.out⟩
end Go.Proofs.YtnoppfgikanebaaDoor
