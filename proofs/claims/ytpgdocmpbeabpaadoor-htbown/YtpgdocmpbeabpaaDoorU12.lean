/-
  package htb: fits, leaf, capped. Conditions: the tree lies in memory as its state tells.
  package htb: capped, offers. Conditions: the tree lies in memory as its state tells; times up to 1000000000.
-/
import Derived.Test.YtpgdocmpbeabpaaDoorZt2
namespace Go.Proofs.YtpgdocmpbeabpaaDoor
open Go.RowKit Go.Extern.Stop Go.Stop Go.Extern

/-- Whether so many bytes may ever go from here up. -/
def fitB (K : HtK) (x : Int) (o : Option Nat) : Bool := (hL K o).all (fun m => decide (x ≤ (K.cls m).cR)) && (hL K o).any (fun m => decide (x ≤ (K.cls m).rR))
set_option maxRecDepth 20000 in
set_option maxHeartbeats 2000000 in
theorem fits_ht {K : HtK} {s : HtS} {vs : Nat → Value} {ow : Nat → Nat × Nat} (hK : HtKOk K) (x : Int) {i0 : Nat} (hi0 : i0 < K.N) (w : World) (h : HtAt K w s vs ow) :
    Calls Tryd.prog 30 #[.pointer (some ⟨K.nb i0, 0, none⟩), .int .i64 x] w fun e w' => e = .returned (.bool (fitB K x (some i0))) ∧ w' = w := by
  have HK : Hid (HtKOk K) := hK
  have H : Hid (HtAt K w s vs ow) := h
  clear hK h
  obtain ⟨R, hR⟩ : ∃ R, fitB K x (some i0) = R := ⟨_, rfl⟩
  rw [hR]
  have HRR : Hid (fitB K x (some i0) = R) := hR
  clear hR
  go_enter Tryd.func30, Tryd.ntmps30
  go_wp2
  go_loopg [5, 6] (oIdx (some i0)) (fun gh lv mv wr => ∃ (o : Option Nat) (b : Bool), oIdx o = gh ∧ (∀ i, o = some i → i < K.N) ∧ mv = ndV K o ∧ lv = .bool b ∧ wr = w ∧ Hid (R = ((hL K o).all (fun m => decide (x ≤ (K.cls m).cR)) && (b || (hL K o).any (fun m => decide (x ≤ (K.cls m).rR))))))
  case atStart => exact ⟨some i0, false, rfl, fun i hi => by cases hi; exact hi0, rfl, rfl, rfl, by show R = _; rw [← HRR.out, Bool.false_or]; rfl⟩
  case round =>
    obtain ⟨o, b, hgk, ho, rfl, rfl, rfl, HR⟩ := hrel
    cases o with
    | none =>
      have HB : Hid (R = b) := by show R = b; have h := HR.out; simpa [hL] using h
      clear HR ho
      show Code.wp _ _ _ _ _
      unfold ndV
      go_wp2
      go_ret
      exact ⟨by rw [HB.out]; rfl, rfl⟩
    | some i =>
      have hi := ho i rfl
      have HI : Hid (i < K.N) := hi
      have hc := H.out.cells hi
      have c6 : wr.cell? ⟨K.nb i, 6, none⟩ = some (.int .i64 (K.cls i).cR) := (hc 6 (by omega)).1
      have c3 : wr.cell? ⟨K.nb i, 3, none⟩ = some (.int .i64 (K.cls i).rR) := (hc 3 (by omega)).1
      have c8 : wr.cell? ⟨K.nb i, 8, none⟩ = some (ndV K (hUp K i)) := (hc 8 (by omega)).1
      have hbl := (H.out.node i hi).blk.lt
      obtain ⟨hup1, hup2⟩ := oIdx_up HK.out hi
      have HR2 : Hid (R = (decide (x ≤ (K.cls i).cR) && (hL K (hUp K i)).all (fun m => decide (x ≤ (K.cls m).cR)) && (b || (decide (x ≤ (K.cls i).rR) || (hL K (hUp K i)).any (fun m => decide (x ≤ (K.cls m).rR)))))) := by
        have h := HR.out
        rw [hL_some HK.out hi, List.all_cons, List.any_cons] at h
        exact h
      obtain ⟨cR, hcR⟩ : ∃ cR, (K.cls i).cR = cR := ⟨_, rfl⟩
      obtain ⟨rR, hrR⟩ : ∃ rR, (K.cls i).rR = rR := ⟨_, rfl⟩
      rw [hcR] at c6 HR2
      rw [hrR] at c3 HR2
      obtain ⟨uv, huv⟩ : ∃ uv, ndV K (hUp K i) = uv := ⟨_, rfl⟩
      have HUV : Hid (ndV K (hUp K i) = uv) := huv
      rw [huv] at c8
      clear HR hc hcR hrR huv hi
      by_cases h1 : cR < x
      · have d1 : decide (cR < x) = true := decide_eq_true h1
        have HB : Hid (R = false) := by show R = false; have h := HR2.out; rw [decide_eq_false (by omega : ¬ x ≤ cR)] at h; simpa using h
        clear HR2 h1
        show Code.wp _ _ _ _ _
        unfold ndV
        go_wp2
        go_ret
        exact ⟨by rw [HB.out]; rfl, rfl⟩
      · have d1 : decide (cR < x) = false := decide_eq_false h1
        have HR3 : Hid (R = ((hL K (hUp K i)).all (fun m => decide (x ≤ (K.cls m).cR)) && ((b || decide (x ≤ rR)) || (hL K (hUp K i)).any (fun m => decide (x ≤ (K.cls m).rR))))) := by have h := HR2.out; rw [decide_eq_true (by omega : x ≤ cR), Bool.true_and, ← Bool.or_assoc] at h; exact h
        clear HR2 h1
        cases b with
        | true =>
          show Code.wp _ _ _ _ _
          unfold ndV
          go_wp2
          go_roundg (oIdx (hUp K i))
          case measure => omega
          case rel => exact ⟨hUp K i, true, rfl, hup2, HUV.out.symm, rfl, rfl, by show R = _; rw [HR3.out, Bool.true_or]⟩
        | false =>
          by_cases h2 : x ≤ rR
          · have d2 : decide (x ≤ rR) = true := decide_eq_true h2
            show Code.wp _ _ _ _ _
            unfold ndV
            go_wp2
            go_roundg (oIdx (hUp K i))
            case measure => omega
            case rel => exact ⟨hUp K i, true, rfl, hup2, HUV.out.symm, rfl, rfl, by show R = _; rw [HR3.out, d2]; rfl⟩
          · have d2 : decide (x ≤ rR) = false := decide_eq_false h2
            show Code.wp _ _ _ _ _
            unfold ndV
            go_wp2
            go_roundg (oIdx (hUp K i))
            case measure => omega
            case rel => exact ⟨hUp K i, false, rfl, hup2, HUV.out.symm, rfl, rfl, by show R = _; rw [HR3.out, d2]; rfl⟩
/-- Whether a flow has a leaf. -/
def leafB (K : HtK) (f : Int) : Bool := decide (0 ≤ f) && decide (f < K.N) && !K.inner f.toNat
theorem leaf_ht {K : HtK} {s : HtS} {vs : Nat → Value} {ow : Nat → Nat × Nat} (hK : HtKOk K) (f : Int) (w : World) (h : HtAt K w s vs ow) :
    Calls Tryd.prog 28 #[.pointer (some ⟨K.tb, 0, none⟩), .int .i64 f] w fun e w' => e = .returned (.tuple #[if leafB K f then .pointer (some ⟨K.nb f.toNat, 0, none⟩) else .pointer none, .bool (leafB K f)]) ∧ w' = w := by
  have hrt := h.root
  have c1 : w.cell? ⟨K.tb, 1, none⟩ = some (.slice (some ⟨K.g, 0, none⟩) K.N K.gcap) := by simp [World.cell?, hrt]
  have hl := lt_of_block hrt
  have hgl := h.gl
  have h16 := hK.n16
  by_cases h0 : f < 0
  · have d0 : decide (f < 0) = true := decide_eq_true h0
    have HL : Hid (leafB K f = false) := by show leafB K f = false; unfold leafB; rw [decide_eq_false (by omega : ¬ 0 ≤ f)]; rfl
    clear hrt h hK h0
    rw [HL.out]
    simp only [Bool.false_eq_true, if_false]
    go_enter Tryd.func28, Tryd.ntmps28
    go_wp2
    go_ret2
    exact ⟨rfl, rfl⟩
  · have d0 : decide (f < 0) = false := decide_eq_false h0
    obtain ⟨i, rfl⟩ : ∃ i : Nat, f = (i : Int) := ⟨f.toNat, by omega⟩
    by_cases h1 : i < K.N
    · have d1 : decide ((K.N : Int) ≤ (i : Int)) = false := decide_eq_false (by omega)
      have hr := h.row i h1
      have c9 := (h.cells h1 9 (by omega)).1
      have hnl := (h.node i h1).blk.lt
      have hi1 : (i : Int) < (K.N : Int) := by omega
      cases hin : K.inner i with
      | true =>
        have c9' : w.cell? ⟨K.nb i, 9, none⟩ = some (.bool true) := by rw [c9]; show some (Value.bool (K.inner i)) = _; rw [hin]
        have HL : Hid (leafB K (i : Int) = false) := by show leafB K (i : Int) = false; unfold leafB; rw [show ((i : Int)).toNat = i by omega, hin]; simp
        clear hrt h hK h0 c9 hin
        rw [HL.out]
        simp only [Bool.false_eq_true, if_false]
        go_enter Tryd.func28, Tryd.ntmps28
        go_wp2
        go_ret2
        exact ⟨rfl, rfl⟩
      | false =>
        have c9' : w.cell? ⟨K.nb i, 9, none⟩ = some (.bool false) := by rw [c9]; show some (Value.bool (K.inner i)) = _; rw [hin]
        have HL : Hid (leafB K (i : Int) = true) := by show leafB K (i : Int) = true; unfold leafB; rw [show ((i : Int)).toNat = i by omega, hin, decide_eq_true (by omega : (0 : Int) ≤ (i : Int)), decide_eq_true hi1]; rfl
        clear hrt h hK h0 c9 hin
        rw [HL.out]
        simp only [if_true]
        go_enter Tryd.func28, Tryd.ntmps28
        go_wp2
        go_ret2
        exact ⟨rfl, rfl⟩
    · have d1 : decide ((K.N : Int) ≤ (i : Int)) = true := decide_eq_true (by omega)
      have HL : Hid (leafB K (i : Int) = false) := by show leafB K (i : Int) = false; unfold leafB; rw [decide_eq_false (by omega : ¬ (i : Int) < (K.N : Int))]; simp
      clear hrt h hK h0
      rw [HL.out]
      simp only [Bool.false_eq_true, if_false]
      go_enter Tryd.func28, Tryd.ntmps28
      go_wp2
      go_ret2
      exact ⟨rfl, rfl⟩
end Go.Proofs.YtpgdocmpbeabpaaDoor
namespace Go.Proofs.YtpgdocmpbeabpaaDoor
open Go.RowKit Go.Extern.Stop Go.Stop Go.Extern

/-- How many bytes are in a class's Ceil, in its Rate, at a time. -/
def hasC (K : HtK) (s : HtS) (now : Int) (m : Nat) : Int := hasB (K.cls m).cn (K.cls m).ct (K.cls m).cR (s.nd m).cl (s.nd m).ca now
def hasR (K : HtK) (s : HtS) (now : Int) (m : Nat) : Int := hasB (K.cls m).rn (K.cls m).rt (K.cls m).rR (s.nd m).rl (s.nd m).ra now
/-- Whether some Ceil from here up has less. -/
def capB (K : HtK) (s : HtS) (now x : Int) (o : Option Nat) : Bool := (hL K o).any (fun m => decide (hasC K s now m < x))
/-- The state at a time. -/
def HtS.at (s : HtS) (now : Int) : HtS := { s with tm := now }
theorem HtI.at {K : HtK} {t : Int} {n : Nat} {s : HtS} (h : HtI K t n s) {now : Int} (h1 : s.tm ≤ now) : HtI K now n (s.at now) :=
  ⟨Int.le_refl _, by show 0 ≤ now; have := h.t0; omega, fun i hi => (h.rate i hi).later h1, fun i hi => (h.ceil i hi).later h1, h.wait, h.inner⟩
theorem hasC_told {K : HtK} {w : World} {s : HtS} {vs : Nat → Value} {ow : Nat → Nat × Nat} {t : Int} {n : Nat} (h : HtAt K w s vs ow) (hI : HtI K t n s) {now : Int} (hn : s.tm = now) (h2 : now ≤ 1000000000) {i : Nat} (hi : i < K.N) :
    Calls Tryd.prog 45 #[.pointer (some ⟨K.cb i, 0, none⟩), .int .i64 now] w fun e w' => e = .returned (.int .i64 (hasC K s now i)) ∧ Hid (HtAt K w' s vs ow) ∧ Hid (Ot (HtF K vs) w w') := by
  refine (has_bk now w (h.ceil i hi) (hI.ceil i hi) (by omega) (by omega)).mono ?_
  rintro e w' ⟨rfl, h1, h2⟩
  rw [← hn] at h1
  have h3 := h.ceilSet hi h2 h1
  have e : updN s.nd i { s.nd i with cl := (s.nd i).cl, ca := (s.nd i).ca } = s.nd := updN_id s.nd i
  rw [e] at h3
  exact ⟨rfl, h3, h2.mono (fun k _ hk => Or.inr (Or.inr ⟨i, hi, Or.inr (Or.inr (Or.inl hk))⟩))⟩
theorem hasR_told {K : HtK} {w : World} {s : HtS} {vs : Nat → Value} {ow : Nat → Nat × Nat} {t : Int} {n : Nat} (h : HtAt K w s vs ow) (hI : HtI K t n s) {now : Int} (hn : s.tm = now) (h2 : now ≤ 1000000000) {i : Nat} (hi : i < K.N) :
    Calls Tryd.prog 45 #[.pointer (some ⟨K.rb i, 0, none⟩), .int .i64 now] w fun e w' => e = .returned (.int .i64 (hasR K s now i)) ∧ Hid (HtAt K w' s vs ow) ∧ Hid (Ot (HtF K vs) w w') := by
  refine (has_bk now w (h.rate i hi) (hI.rate i hi) (by omega) (by omega)).mono ?_
  rintro e w' ⟨rfl, h1, h2⟩
  rw [← hn] at h1
  have h3 := h.rateSet hi h2 h1
  have e : updN s.nd i { s.nd i with rl := (s.nd i).rl, ra := (s.nd i).ra } = s.nd := updN_id s.nd i
  rw [e] at h3
  exact ⟨rfl, h3, h2.mono (fun k _ hk => Or.inr (Or.inr ⟨i, hi, Or.inr (Or.inl hk)⟩))⟩
set_option maxRecDepth 20000 in
set_option maxHeartbeats 2000000 in
theorem capped_ht {K : HtK} {s : HtS} {vs : Nat → Value} {ow : Nat → Nat × Nat} {t : Int} {n : Nat} (hK : HtKOk K) (now x : Int) {i0 : Nat} (hi0 : i0 < K.N) (w : World) (h : HtAt K w s vs ow) (hI : HtI K t n s) (hn : s.tm = now) (h2 : now ≤ 1000000000) :
    Calls Tryd.prog 50 #[.pointer (some ⟨K.nb i0, 0, none⟩), .int .i64 now, .int .i64 x] w fun e w' => e = .returned (.bool (capB K s now x (some i0))) ∧ Hid (HtAt K w' s vs ow) ∧ Hid (Ot (HtF K vs) w w') := by
  have HK : Hid (HtKOk K) := hK
  have H : Hid (HtAt K w s vs ow) := h
  have HHAS : Hid (∀ W i, HtAt K W s vs ow → i < K.N → Calls Tryd.prog 45 #[.pointer (some ⟨K.cb i, 0, none⟩), .int .i64 now] W fun e w' => e = .returned (.int .i64 (hasC K s now i)) ∧ Hid (HtAt K w' s vs ow) ∧ Hid (Ot (HtF K vs) W w')) := fun W i hW hi => hasC_told hW hI hn h2 hi
  clear hK h hI hn h2
  obtain ⟨R, hR⟩ : ∃ R, capB K s now x (some i0) = R := ⟨_, rfl⟩
  rw [hR]
  have HRR : Hid (capB K s now x (some i0) = R) := hR
  clear hR
  go_enter Tryd.func50, Tryd.ntmps50
  go_wp2
  go_loopg [7] (oIdx (some i0)) (fun gh mv wr => ∃ (o : Option Nat), oIdx o = gh ∧ (∀ i, o = some i → i < K.N) ∧ mv = ndV K o ∧ Hid (HtAt K wr s vs ow) ∧ Hid (Ot (HtF K vs) w wr) ∧ Hid (R = capB K s now x o))
  case atStart => exact ⟨some i0, rfl, fun i hi => by cases hi; exact hi0, rfl, H.out, Ot.refl _ _, HRR.out.symm⟩
  case round =>
    obtain ⟨o, hgk, ho, rfl, HA, HO, HR⟩ := hrel
    cases o with
    | none =>
      have HB : Hid (R = false) := by show R = false; rw [HR.out]; rfl
      clear HR ho
      show Code.wp _ _ _ _ _
      unfold ndV
      go_wp2
      go_ret
      exact ⟨by rw [HB.out]; rfl, HA, HO⟩
    | some i =>
      have hi := ho i rfl
      have hc := HA.out.cells hi
      have c11 : wr.cell? ⟨K.nb i, 11, none⟩ = some (.pointer (some ⟨K.cb i, 0, none⟩)) := (hc 11 (by omega)).1
      have hbl := (HA.out.node i hi).blk.lt
      obtain ⟨hup1, hup2⟩ := oIdx_up HK.out hi
      have HCL := HHAS.out wr i HA.out hi
      have HI : Hid (i < K.N) := hi
      have HR2 : Hid (R = (decide (hasC K s now i < x) || capB K s now x (hUp K i))) := by
        have h := HR.out
        unfold capB at h ⊢
        rw [hL_some HK.out hi, List.any_cons] at h
        exact h
      obtain ⟨hv, hhv⟩ : ∃ hv, hasC K s now i = hv := ⟨_, rfl⟩
      rw [hhv] at HCL HR2
      clear HR hc hhv hi
      show Code.wp _ _ _ _ _
      unfold ndV
      go_wp2_with fail
      refine HCL.mono ?_
      rintro e w1 ⟨rfl, HA1, HO1⟩
      have c8 : w1.cell? ⟨K.nb i, 8, none⟩ = some (ndV K (hUp K i)) := (HA1.out.cells HI.out 8 (by omega)).1
      have hbl1 := (HA1.out.node i HI.out).blk.lt
      obtain ⟨uv, huv⟩ : ∃ uv, ndV K (hUp K i) = uv := ⟨_, rfl⟩
      have HUV : Hid (ndV K (hUp K i) = uv) := huv
      rw [huv] at c8
      clear huv HCL
      by_cases h1 : hv < x
      · have d1 : decide (hv < x) = true := decide_eq_true h1
        have HB : Hid (R = true) := by show R = true; rw [HR2.out, d1]; rfl
        go_wp2
        go_ret
        exact ⟨by rw [HB.out]; rfl, HA1, HO.out.trans HO1.out⟩
      · have d1 : decide (hv < x) = false := decide_eq_false h1
        go_wp2
        go_roundg (oIdx (hUp K i))
        case measure => omega
        case rel => exact ⟨hUp K i, rfl, hup2, HUV.out.symm, HA1, HO.out.trans HO1.out, by show R = _; rw [HR2.out, d1]; rfl⟩
end Go.Proofs.YtpgdocmpbeabpaaDoor
