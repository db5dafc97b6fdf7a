/-
  package htb: capped, offers. Conditions: the tree lies in memory as its state tells; times up to 20000000.
-/
import Derived.Test.YtpgdocmpbeabpaaDoorZt2
namespace Go.Proofs.YtpgdocmpbeabpaaDoor
open Go.RowKit Go.Extern.Stop Go.Stop Go.Extern

/-- How many bytes are in a class's Ceil, in its Rate, at a time. -/
def hasC (K : HtK) (s : HtS) (now : Int) (m : Nat) : Int := hasB (K.cls m).cn (K.cls m).ct (K.cls m).cR (s.nd m).cl (s.nd m).ca now
def hasR (K : HtK) (s : HtS) (now : Int) (m : Nat) : Int := hasB (K.cls m).rn (K.cls m).rt (K.cls m).rR (s.nd m).rl (s.nd m).ra now
/-- Whether some Ceil from here up has less. -/
def capB (K : HtK) (s : HtS) (now x : Int) (o : Option Nat) : Bool := (hL K o).any (fun m => decide (hasC K s now m < x))
/-- The state at a time. -/
def HtS.at (s : HtS) (now : Int) : HtS := { s with tm := now }
theorem HtI.at {K : HtK} {t : Int} {n : Nat} {s : HtS} (h : HtI K t n s) {now : Int} (h1 : s.tm ≤ now) : HtI K now n (s.at now) :=
  ⟨Int.le_refl _, by show 0 ≤ now; have := h.t0; omega, fun i hi => (h.rate i hi).later h1, fun i hi => (h.ceil i hi).later h1, h.wait, h.inner⟩
theorem hasC_told {K : HtK} {w : World} {s : HtS} {vs : Nat → Value} {ow : Nat → Nat × Nat} {t : Int} {n : Nat} (h : HtAt K w s vs ow) (hI : HtI K t n s) {now : Int} (hn : s.tm = now) (h2 : now ≤ 20000000) {i : Nat} (hi : i < K.N) :
    Calls Tryd.prog 45 #[.pointer (some ⟨K.cb i, 0, none⟩), .int .i64 now] w fun e w' => e = .returned (.int .i64 (hasC K s now i)) ∧ Hid (HtAt K w' s vs ow) ∧ Hid (Ot (HtF K vs) w w') := by
  refine (has_bk now w (h.ceil i hi) (hI.ceil i hi) (by omega) (by omega)).mono ?_
  rintro e w' ⟨rfl, h1, h2⟩
  rw [← hn] at h1
  have h3 := h.ceilSet hi h2 h1
  have e : updN s.nd i { s.nd i with cl := (s.nd i).cl, ca := (s.nd i).ca } = s.nd := updN_id s.nd i
  rw [e] at h3
  exact ⟨rfl, h3, h2.mono (fun k _ hk => Or.inr (Or.inr ⟨i, hi, Or.inr (Or.inr (Or.inl hk))⟩))⟩
theorem hasR_told {K : HtK} {w : World} {s : HtS} {vs : Nat → Value} {ow : Nat → Nat × Nat} {t : Int} {n : Nat} (h : HtAt K w s vs ow) (hI : HtI K t n s) {now : Int} (hn : s.tm = now) (h2 : now ≤ 20000000) {i : Nat} (hi : i < K.N) :
    Calls Tryd.prog 45 #[.pointer (some ⟨K.rb i, 0, none⟩), .int .i64 now] w fun e w' => e = .returned (.int .i64 (hasR K s now i)) ∧ Hid (HtAt K w' s vs ow) ∧ Hid (Ot (HtF K vs) w w') := by
  refine (has_bk now w (h.rate i hi) (hI.rate i hi) (by omega) (by omega)).mono ?_
  rintro e w' ⟨rfl, h1, h2⟩
  rw [← hn] at h1
  have h3 := h.rateSet hi h2 h1
  have e : updN s.nd i { s.nd i with rl := (s.nd i).rl, ra := (s.nd i).ra } = s.nd := updN_id s.nd i
  rw [e] at h3
  exact ⟨rfl, h3, h2.mono (fun k _ hk => Or.inr (Or.inr ⟨i, hi, Or.inr (Or.inl hk)⟩))⟩
set_option maxRecDepth 20000 in
set_option maxHeartbeats 2000000 in
theorem capped_ht {K : HtK} {s : HtS} {vs : Nat → Value} {ow : Nat → Nat × Nat} {t : Int} {n : Nat} (hK : HtKOk K) (now x : Int) {i0 : Nat} (hi0 : i0 < K.N) (w : World) (h : HtAt K w s vs ow) (hI : HtI K t n s) (hn : s.tm = now) (h2 : now ≤ 20000000) :
    Calls Tryd.prog 50 #[.pointer (some ⟨K.nb i0, 0, none⟩), .int .i64 now, .int .i64 x] w fun e w' => e = .returned (.bool (capB K s now x (some i0))) ∧ Hid (HtAt K w' s vs ow) ∧ Hid (Ot (HtF K vs) w w') := by
  have HK : Hid (HtKOk K) := hK
  have H : Hid (HtAt K w s vs ow) := h
  have HHAS : Hid (∀ W i, HtAt K W s vs ow → i < K.N → Calls Tryd.prog 45 #[.pointer (some ⟨K.cb i, 0, none⟩), .int .i64 now] W fun e w' => e = .returned (.int .i64 (hasC K s now i)) ∧ Hid (HtAt K w' s vs ow) ∧ Hid (Ot (HtF K vs) W w')) := fun W i hW hi => hasC_told hW hI hn h2 hi
  clear hK h hI hn h2
  obtain ⟨R, hR⟩ : ∃ R, capB K s now x (some i0) = R := ⟨_, rfl⟩
  rw [hR]
  have HRR : Hid (capB K s now x (some i0) = R) := hR
  clear hR
  go_enter Tryd.func50, Tryd.ntmps50
  go_wp2
  go_loopg [7] (oIdx (some i0)) (fun gh mv wr => ∃ (o : Option Nat), oIdx o = gh ∧ (∀ i, o = some i → i < K.N) ∧ mv = ndV K o ∧ Hid (HtAt K wr s vs ow) ∧ Hid (Ot (HtF K vs) w wr) ∧ Hid (R = capB K s now x o))
  case atStart => exact ⟨some i0, rfl, fun i hi => by cases hi; exact hi0, rfl, H.out, Ot.refl _ _, HRR.out.symm⟩
  case round =>
    obtain ⟨o, hgk, ho, rfl, HA, HO, HR⟩ := hrel
    cases o with
    | none =>
      have HB : Hid (R = false) := by show R = false; rw [HR.out]; rfl
      clear HR ho
      show Code.wp _ _ _ _ _
      unfold ndV
      go_wp2
      go_ret
      exact ⟨by rw [HB.out]; rfl, HA, HO⟩
    | some i =>
      have hi := ho i rfl
      have hc := HA.out.cells hi
      have c11 : wr.cell? ⟨K.nb i, 11, none⟩ = some (.pointer (some ⟨K.cb i, 0, none⟩)) := (hc 11 (by omega)).1
      have hbl := (HA.out.node i hi).blk.lt
      obtain ⟨hup1, hup2⟩ := oIdx_up HK.out hi
      have HCL := HHAS.out wr i HA.out hi
      have HI : Hid (i < K.N) := hi
      have HR2 : Hid (R = (decide (hasC K s now i < x) || capB K s now x (hUp K i))) := by
        have h := HR.out
        unfold capB at h ⊢
        rw [hL_some HK.out hi, List.any_cons] at h
        exact h
      obtain ⟨hv, hhv⟩ : ∃ hv, hasC K s now i = hv := ⟨_, rfl⟩
      rw [hhv] at HCL HR2
      clear HR hc hhv hi
      show Code.wp _ _ _ _ _
      unfold ndV
      go_wp2_with fail
      refine HCL.mono ?_
      rintro e w1 ⟨rfl, HA1, HO1⟩
      have c8 : w1.cell? ⟨K.nb i, 8, none⟩ = some (ndV K (hUp K i)) := (HA1.out.cells HI.out 8 (by omega)).1
      have hbl1 := (HA1.out.node i HI.out).blk.lt
      obtain ⟨uv, huv⟩ : ∃ uv, ndV K (hUp K i) = uv := ⟨_, rfl⟩
      have HUV : Hid (ndV K (hUp K i) = uv) := huv
      rw [huv] at c8
      clear huv HCL
      by_cases h1 : hv < x
      · have d1 : decide (hv < x) = true := decide_eq_true h1
        have HB : Hid (R = true) := by show R = true; rw [HR2.out, d1]; rfl
        go_wp2
        go_ret
        exact ⟨by rw [HB.out]; rfl, HA1, HO.out.trans HO1.out⟩
      · have d1 : decide (hv < x) = false := decide_eq_false h1
        go_wp2
        go_roundg (oIdx (hUp K i))
        case measure => omega
        case rel => exact ⟨hUp K i, rfl, hup2, HUV.out.symm, HA1, HO.out.trans HO1.out, by show R = _; rw [HR2.out, d1]; rfl⟩
end Go.Proofs.YtpgdocmpbeabpaaDoor
