/-
  package htb: When. Conditions: the tree lies in memory as its state tells; times up to 20000000.
-/
import Derived.Test.YtpgdocmpbeabpaaDoorZtb
namespace Go.Proofs.YtpgdocmpbeabpaaDoor
open Go.RowKit Go.Extern.Stop Go.Stop Go.Extern

/-- The least of the times that were told. -/
def hearM (p : Int × Bool) (at' : Int) (ok : Bool) : Int × Bool := if ok && (!p.2 || decide (at' < p.1)) then (at', true) else p
set_option maxHeartbeats 2000000 in
theorem hear_ht (sb : Nat) (p : Int × Bool) (at' : Int) (ok : Bool) (w : World) (h : w.heap[sb]? = some (.cells #[.int .i64 p.1, .bool p.2] 163 (0, 0))) :
    Calls Tryd.prog 84 #[.pointer (some ⟨sb, 0, none⟩), .int .i64 at', .bool ok] w fun e w' => e = .returned (.tuple #[]) ∧ Hid (w'.heap[sb]? = some (.cells #[.int .i64 (hearM p at' ok).1, .bool (hearM p at' ok).2] 163 (0, 0))) ∧ Hid (Ot (fun k => k = sb) w w') := by
  obtain ⟨a, b⟩ := p
  have H : Hid (w.heap[sb]? = some (.cells #[.int .i64 a, .bool b] 163 (0, 0))) := h
  have c0 : w.cell? ⟨sb, 0, none⟩ = some (.int .i64 a) := by simp only [World.cell?]; rw [h]; rfl
  have c1 : w.cell? ⟨sb, 1, none⟩ = some (.bool b) := by simp only [World.cell?]; rw [h]; rfl
  have f0 : w.frozen? ⟨sb, 0, none⟩ = false := by simp only [World.frozen?]; rw [h]; rfl
  have f1 : w.frozen? ⟨sb, 1, none⟩ = false := by simp only [World.frozen?]; rw [h]; rfl
  have hl := lt_of_block h
  clear h
  cases ok with
  | false =>
    go_enter Tryd.func84, Tryd.ntmps84
    go_wp2
    go_end0
    exact ⟨rfl, H, Ot.refl _ _⟩
  | true =>
    have HS : Hid (((w.setCell ⟨sb, 0, none⟩ (.int .i64 at')).setCell ⟨sb, 1, none⟩ (.bool true)).heap[sb]? = some (.cells #[.int .i64 at', .bool true] 163 (0, 0))) := by
      show _ = _
      rw [heap_setCell_here (heap_setCell_here H.out _) _]
      simp
    have HO : Hid (Ot (fun k => k = sb) w ((w.setCell ⟨sb, 0, none⟩ (.int .i64 at')).setCell ⟨sb, 1, none⟩ (.bool true))) := by
      show Ot _ _ _
      repeat' (first | with_reducible exact Ot.refl _ _ | with_reducible refine Ot.setCell ?_ (by simp) _)
    cases b with
    | false =>
      go_enter Tryd.func84, Tryd.ntmps84
      go_wp2
      go_end0
      exact ⟨rfl, HS, HO⟩
    | true =>
      by_cases hlt : at' < a
      · have d0 : decide (at' < a) = true := decide_eq_true hlt
        have hM : hearM (a, true) at' true = (at', true) := by unfold hearM; simp [hlt]
        rw [hM]
        clear hM hlt
        go_enter Tryd.func84, Tryd.ntmps84
        go_wp2
        go_end0
        exact ⟨rfl, HS, HO⟩
      · have d0 : decide (at' < a) = false := decide_eq_false hlt
        have hM : hearM (a, true) at' true = (a, true) := by unfold hearM; simp [hlt]
        rw [hM]
        clear hM hlt
        go_enter Tryd.func84, Tryd.ntmps84
        go_wp2
        go_end0
        exact ⟨rfl, H, Ot.refl _ _⟩
/-- When so many bytes are in a class's Ceil, in its Rate. -/
def whC (K : HtK) (s : HtS) (now x : Int) (m : Nat) : Int := if x ≤ (K.cls m).cR then whn (K.cls m).cn (K.cls m).ct (pas (K.cls m).cn (K.cls m).ct (K.cls m).cR (s.nd m).cl (s.nd m).ca now) (lat1 (s.nd m).ca now) x else 0
def whR (K : HtK) (s : HtS) (now x : Int) (m : Nat) : Int := if x ≤ (K.cls m).rR then whn (K.cls m).rn (K.cls m).rt (pas (K.cls m).rn (K.cls m).rt (K.cls m).rR (s.nd m).rl (s.nd m).ra now) (lat1 (s.nd m).ra now) x else 0
def rdL (K : HtK) (s : HtS) (now x : Int) : List Nat → Int → Int × Bool → Int × Bool
  | [], a, p => (max a p.1, true)
  | m :: r, a, p => if x ≤ (K.cls m).cR then rdL K s now x r (max a (whC K s now x m)) (hearM p (whR K s now x m) (decide (x ≤ (K.cls m).rR))) else (0, false)
/-- When a class may send. -/
def readyM (K : HtK) (s : HtS) (now : Int) (i : Nat) : Int × Bool := match (s.nd i).L with
  | [] => (0, false)
  | x :: _ => rdL K s now x.l (hL K (some i)) now (0, false)
theorem whenC_told {K : HtK} {w : World} {s : HtS} {vs : Nat → Value} {ow : Nat → Nat × Nat} {t : Int} {n : Nat} (h : HtAt K w s vs ow) (hI : HtI K t n s) {now x : Int} (hn : s.tm = now) (h2 : now ≤ 20000000) (hx0 : 0 ≤ x) {i : Nat} (hi : i < K.N) :
    Calls Tryd.prog 86 #[.pointer (some ⟨K.cb i, 0, none⟩), .int .i64 now, .int .i64 x] w fun e w' => e = .returned (.tuple #[.int .i64 (whC K s now x i), .bool (decide (x ≤ (K.cls i).cR))]) ∧ Hid (HtAt K w' s vs ow) ∧ Hid (Ot (HtF K vs) w w') := by
  refine (when_bk now x w (h.ceil i hi) (hI.ceil i hi) (by omega) (by omega) hx0).mono ?_
  rintro e w' ⟨rfl, h1, h3⟩
  rw [← hn] at h1
  have h4 := h.ceilSet hi h3 h1
  have e : updN s.nd i { s.nd i with cl := (s.nd i).cl, ca := (s.nd i).ca } = s.nd := updN_id s.nd i
  rw [e] at h4
  exact ⟨rfl, h4, h3.mono (fun k _ hk => Or.inr (Or.inr ⟨i, hi, Or.inr (Or.inr (Or.inl hk))⟩))⟩
theorem whenR_told {K : HtK} {w : World} {s : HtS} {vs : Nat → Value} {ow : Nat → Nat × Nat} {t : Int} {n : Nat} (h : HtAt K w s vs ow) (hI : HtI K t n s) {now x : Int} (hn : s.tm = now) (h2 : now ≤ 20000000) (hx0 : 0 ≤ x) {i : Nat} (hi : i < K.N) :
    Calls Tryd.prog 86 #[.pointer (some ⟨K.rb i, 0, none⟩), .int .i64 now, .int .i64 x] w fun e w' => e = .returned (.tuple #[.int .i64 (whR K s now x i), .bool (decide (x ≤ (K.cls i).rR))]) ∧ Hid (HtAt K w' s vs ow) ∧ Hid (Ot (HtF K vs) w w') := by
  refine (when_bk now x w (h.rate i hi) (hI.rate i hi) (by omega) (by omega) hx0).mono ?_
  rintro e w' ⟨rfl, h1, h3⟩
  rw [← hn] at h1
  have h4 := h.rateSet hi h3 h1
  have e : updN s.nd i { s.nd i with rl := (s.nd i).rl, ra := (s.nd i).ra } = s.nd := updN_id s.nd i
  rw [e] at h4
  exact ⟨rfl, h4, h3.mono (fun k _ hk => Or.inr (Or.inr ⟨i, hi, Or.inr (Or.inl hk)⟩))⟩
set_option maxRecDepth 20000 in
set_option maxHeartbeats 4000000 in
theorem ready_ht {K : HtK} {s : HtS} {vs : Nat → Value} {ow : Nat → Nat × Nat} {t : Int} {n : Nat} (hK : HtKOk K) (now : Int) {i0 : Nat} (hi0 : i0 < K.N) (w : World) (h : HtAt K w s vs ow) (hI : HtI K t n s) (hn : s.tm = now) (h2 : now ≤ 20000000) :
    Calls Tryd.prog 85 #[.pointer (some ⟨K.nb i0, 0, none⟩), .int .i64 now] w fun e w' => e = .returned (.tuple #[.int .i64 (readyM K s now i0).1, .bool (readyM K s now i0).2]) ∧ Hid (HtAt K w' s vs ow) ∧ Hid (Ot (HtF K vs) w w') := by
  have HK : Hid (HtKOk K) := hK
  have H : Hid (HtAt K w s vs ow) := h
  have HLW : Hid (∀ k, HtF K vs k → k < w.heap.size) := h.low
  cases hL0 : (s.nd i0).L with
  | nil =>
    have HFI : Hid (Calls Tryd.prog 49 #[.pointer (some ⟨K.nb i0, 12, none⟩)] w fun e w' => e = .returned (.tuple #[.agg #[.int .i64 0, .int .i64 0, .int .i64 0, .int .i64 0, .int .i64 0, .int .i64 0], .bool false]) ∧ Hid (HtAt K w' s vs ow) ∧ Hid (Ot (HtF K vs) w w')) := by
      refine (firstO_any w (h.node i0 hi0)).mono ?_
      rw [hL0]
      rintro e w' ⟨rfl, hb⟩
      exact ⟨rfl, h.below hb, Ot.of_below hb⟩
    have hM : readyM K s now i0 = (0, false) := by unfold readyM; rw [hL0]
    rw [hM]
    clear hK h hI hn h2 hL0 hM
    go_enter Tryd.func85, Tryd.ntmps85
    go_wp2_with fail
    refine HFI.out.mono ?_
    rintro e w1 ⟨rfl, HA1, HO1⟩
    go_wp2
    go_ret2
    exact ⟨rfl, HA1.out.below (below_alloc_ (Below.refl _ _) _), HO1.out.alloc _⟩
  | cons x r =>
    have HFI : Hid (Calls Tryd.prog 49 #[.pointer (some ⟨K.nb i0, 12, none⟩)] w fun e w' => e = .returned (.tuple #[.agg #[.int .i64 x.a, .int .i64 x.l, .int .i64 x.f, .int .i64 x.b, .int .i64 x.m, .int .i64 x.n], .bool true]) ∧ Hid (HtAt K w' s vs ow) ∧ Hid (Ot (HtF K vs) w w')) := by
      refine (firstO_any w (h.node i0 hi0)).mono ?_
      rw [hL0]
      rintro e w' ⟨rfl, hb⟩
      exact ⟨rfl, h.below hb, Ot.of_below hb⟩
    have hx := (hI.wait i0 hi0).2 x (by rw [hL0]; simp)
    have HCW : Hid (∀ W i, HtAt K W s vs ow → i < K.N → Calls Tryd.prog 86 #[.pointer (some ⟨K.cb i, 0, none⟩), .int .i64 now, .int .i64 x.l] W fun e w' => e = .returned (.tuple #[.int .i64 (whC K s now x.l i), .bool (decide (x.l ≤ (K.cls i).cR))]) ∧ Hid (HtAt K w' s vs ow) ∧ Hid (Ot (HtF K vs) W w')) := fun W i hW hi => whenC_told hW hI hn h2 hx.1 hi
    have HRW : Hid (∀ W i, HtAt K W s vs ow → i < K.N → Calls Tryd.prog 86 #[.pointer (some ⟨K.rb i, 0, none⟩), .int .i64 now, .int .i64 x.l] W fun e w' => e = .returned (.tuple #[.int .i64 (whR K s now x.l i), .bool (decide (x.l ≤ (K.cls i).rR))]) ∧ Hid (HtAt K w' s vs ow) ∧ Hid (Ot (HtF K vs) W w')) := fun W i hW hi => whenR_told hW hI hn h2 hx.1 hi
    obtain ⟨R, hR⟩ : ∃ R, readyM K s now i0 = R := ⟨_, rfl⟩
    have HR0 : Hid (R = rdL K s now x.l (hL K (some i0)) now (0, false)) := by show R = _; rw [← hR]; unfold readyM; rw [hL0]
    rw [hR]
    clear hK h hI hn h2 hL0 hR hx
    go_enter Tryd.func85, Tryd.ntmps85
    go_wp2_with fail
    refine HFI.out.mono ?_
    rintro e w1 ⟨rfl, HA1, HO1⟩
    have hs1 : w.heap.size ≤ w1.heap.size := HO1.out.size
    have HX3 : Hid (((w1.alloc (.cells #[.int .i64 x.a, .int .i64 x.l, .int .i64 x.f, .int .i64 x.b, .int .i64 x.m, .int .i64 x.n] 60)).alloc (.cells #[.int .i64 0, .bool false] 163)).heap[w1.heap.size]? = some (.cells #[.int .i64 x.a, .int .i64 x.l, .int .i64 x.f, .int .i64 x.b, .int .i64 x.m, .int .i64 x.n] 60 (0, 0))) := (Below.heap_alloc _ _ _ (by simp)).trans (new_block _ _)
    have HS3 : Hid (((w1.alloc (.cells #[.int .i64 x.a, .int .i64 x.l, .int .i64 x.f, .int .i64 x.b, .int .i64 x.m, .int .i64 x.n] 60)).alloc (.cells #[.int .i64 0, .bool false] 163)).heap[w1.heap.size + 1]? = some (.cells #[.int .i64 0, .bool false] 163 (0, 0))) := new_block_ (by simp)
    have HA3 : Hid (HtAt K ((w1.alloc (.cells #[.int .i64 x.a, .int .i64 x.l, .int .i64 x.f, .int .i64 x.b, .int .i64 x.m, .int .i64 x.n] 60)).alloc (.cells #[.int .i64 0, .bool false] 163)) s vs ow) := HA1.out.below (below_alloc_ (below_alloc_ (Below.refl _ _) _) _)
    have HO3 : Hid (Ot (HtF K vs) w ((w1.alloc (.cells #[.int .i64 x.a, .int .i64 x.l, .int .i64 x.f, .int .i64 x.b, .int .i64 x.m, .int .i64 x.n] 60)).alloc (.cells #[.int .i64 0, .bool false] 163))) := (HO1.out.alloc _).alloc _
    clear HA1 HO1 HFI
    go_wp2
    obtain ⟨bx, hbx⟩ : ∃ bx, w1.heap.size = bx := ⟨_, rfl⟩
    rw [hbx] at HX3 HS3 hs1 ⊢
    generalize (w1.alloc (.cells #[.int .i64 x.a, .int .i64 x.l, .int .i64 x.f, .int .i64 x.b, .int .i64 x.m, .int .i64 x.n] 60)).alloc (.cells #[.int .i64 0, .bool false] 163) = w3 at *
    have HNX : Hid (∀ k, HtF K vs k → k ≠ bx ∧ k ≠ bx + 1) := fun k hk => by have := HLW.out k hk; omega
    clear hbx
    go_loopg [8, 10] (oIdx (some i0)) (fun gh av mv wr => ∃ (o : Option Nat) (a : Int) (p : Int × Bool), oIdx o = gh ∧ (∀ i, o = some i → i < K.N) ∧ mv = ndV K o ∧ av = .int .i64 a ∧ Hid (HtAt K wr s vs ow) ∧ Hid (Ot (HtF K vs) w wr) ∧ Hid (wr.heap[bx]? = some (.cells #[.int .i64 x.a, .int .i64 x.l, .int .i64 x.f, .int .i64 x.b, .int .i64 x.m, .int .i64 x.n] 60 (0, 0))) ∧ Hid (wr.heap[bx + 1]? = some (.cells #[.int .i64 p.1, .bool p.2] 163 (0, 0))) ∧ Hid (R = rdL K s now x.l (hL K o) a p))
    case atStart => exact ⟨some i0, now, (0, false), rfl, fun i hi => by cases hi; exact hi0, rfl, rfl, HA3, HO3, HX3, HS3, HR0⟩
    case round =>
      clear HA3 HO3 HX3 HS3 HR0
      obtain ⟨o, a, p, hgk, ho, rfl, rfl, HA, HO, HX, HS, HR⟩ := hrel
      cases o with
      | none =>
        have hS := HS.out
        have c0 : wr.cell? ⟨bx + 1, 0, none⟩ = some (.int .i64 p.1) := by simp only [World.cell?]; rw [hS]; rfl
        have ls := lt_of_block hS
        obtain ⟨p1, p2⟩ := p
        have HE : Hid (R = (max a p1, true)) := HR
        clear hS HR ho
        show Code.wp _ _ _ _ _
        unfold ndV
        go_wp2
        all_goals
          go_ret2
          refine ⟨?_, HA, HO⟩
          rw [HE.out]
          first
            | (have e : max a p1 = a := by omega
               rw [e]
               rfl)
            | (have e : max a p1 = p1 := by omega
               rw [e]
               rfl)
      | some i =>
        have hi := ho i rfl
        have HIN : Hid (i < K.N) := hi
        have hbl := (HA.out.node i hi).blk.lt
        have hX := HX.out
        have hS := HS.out
        have hxl := lt_of_block hX
        have hsl := lt_of_block hS
        have HF0 : wr.drew.cell? ⟨K.nb i, 11, none⟩ = some (.pointer (some ⟨K.cb i, 0, none⟩)) ∧ wr.drew.cell? ⟨bx, 1, none⟩ = some (.int .i64 x.l) := ⟨(HA.out.cells hi 11 (by omega)).1, by show wr.cell? _ = _; simp only [World.cell?]; rw [hX]; rfl⟩
        have HCX : Hid (∀ W, Ot (HtF K vs) wr W → W.cell? ⟨bx, 1, none⟩ = some (.int .i64 x.l)) := by
          intro W hW
          rw [hW.cell (p := ⟨bx, 1, none⟩) hxl (fun hk => (HNX.out _ hk).1 rfl)]
          exact HF0.2
        obtain ⟨hup1, hup2⟩ := oIdx_up HK.out hi
        have hoi : oIdx (some i) = i + 1 := rfl
        rw [hoi] at hup1 hgk
        have HCL : Hid (Calls Tryd.prog 86 #[.pointer (some ⟨K.cb i, 0, none⟩), .int .i64 now, .int .i64 x.l] wr.drew fun e w' => e = .returned (.tuple #[.int .i64 (whC K s now x.l i), .bool (decide (x.l ≤ (K.cls i).cR))]) ∧ Hid (HtAt K w' s vs ow) ∧ Hid (Ot (HtF K vs) wr.drew w')) := HCW.out wr.drew i (HA.out.below (Below.refl _ _).drew) hi
        have HR2 : Hid (R = if x.l ≤ (K.cls i).cR then rdL K s now x.l (hL K (hUp K i)) (max a (whC K s now x.l i)) (hearM p (whR K s now x.l i) (decide (x.l ≤ (K.cls i).rR))) else (0, false)) := by
          have h := HR.out
          rw [hL_some HK.out hi] at h
          exact h
        obtain ⟨cv, hcv⟩ : ∃ cv, whC K s now x.l i = cv := ⟨_, rfl⟩
        rw [hcv] at HCL HR2
        have HOD : Hid (∀ W, Ot (HtF K vs) wr.drew W → Ot (HtF K vs) wr W) := fun W hW => (Ot.refl _ _).drew.trans hW
        clear hcv HR hi hX ho
        show Code.wp _ _ _ _ _
        unfold ndV
        by_cases h1 : x.l ≤ (K.cls i).cR
        · have HM : Hid (R = rdL K s now x.l (hL K (hUp K i)) (max a cv) (hearM p (whR K s now x.l i) (decide (x.l ≤ (K.cls i).rR)))) := by show R = _; rw [HR2.out, if_pos h1]
          have d1 : decide (x.l ≤ (K.cls i).cR) = true := decide_eq_true h1
          rw [d1] at HCL
          obtain ⟨rk, hrk⟩ : ∃ rk, decide (x.l ≤ (K.cls i).rR) = rk := ⟨_, rfl⟩
          obtain ⟨rv, hrv⟩ : ∃ rv, whR K s now x.l i = rv := ⟨_, rfl⟩
          have HRC : Hid (∀ W, HtAt K W s vs ow → Calls Tryd.prog 86 #[.pointer (some ⟨K.rb i, 0, none⟩), .int .i64 now, .int .i64 x.l] W fun e w' => e = .returned (.tuple #[.int .i64 rv, .bool rk]) ∧ Hid (HtAt K w' s vs ow) ∧ Hid (Ot (HtF K vs) W w')) := by intro W hW; have h := HRW.out W i hW HIN.out; rw [hrk, hrv] at h; exact h
          rw [hrk, hrv] at HM
          obtain ⟨mx, hmx⟩ : ∃ mx, (if a < cv then cv else a) = mx := ⟨_, rfl⟩
          have HMX : Hid (max a cv = mx) := by show max a cv = mx; rw [← hmx]; split <;> omega
          have HHE : Hid (∀ W, W.heap[bx + 1]? = some (.cells #[.int .i64 p.1, .bool p.2] 163 (0, 0)) → Calls Tryd.prog 84 #[.pointer (some ⟨bx + 1, 0, none⟩), .int .i64 rv, .bool rk] W fun e w' => e = .returned (.tuple #[]) ∧ Hid (w'.heap[bx + 1]? = some (.cells #[.int .i64 (hearM p rv rk).1, .bool (hearM p rv rk).2] 163 (0, 0))) ∧ Hid (Ot (fun k => k = bx + 1) W w')) := fun W hW => hear_ht (bx + 1) p rv rk W hW
          have HSK : Hid (∀ W, Ot (HtF K vs) wr W → W.heap[bx + 1]? = some (.cells #[.int .i64 p.1, .bool p.2] 163 (0, 0)) ∧ W.heap[bx]? = some (.cells #[.int .i64 x.a, .int .i64 x.l, .int .i64 x.f, .int .i64 x.b, .int .i64 x.m, .int .i64 x.n] 60 (0, 0)) ∧ wr.heap.size ≤ W.heap.size) := fun W hW => ⟨(hW.block _ hsl (fun hk => (HNX.out _ hk).2 rfl)).trans HS.out, (hW.block _ hxl (fun hk => (HNX.out _ hk).1 rfl)).trans HX.out, hW.size⟩
          clear HR2 h1 d1 hrk hrv hS
          go_wp2_with fail
          go_region_held3 (fun W => W.cell? ⟨K.nb i, 11, none⟩ = some (.pointer (some ⟨K.cb i, 0, none⟩)) ∧ W.cell? ⟨bx, 1, none⟩ = some (.int .i64 x.l))
            (first | (with_reducible exact HF5) | (with_reducible exact HF0))
            (first | (go_at_call 86; refine HCL.out.mono ?_; rintro e w5 ⟨rfl, HA5, HO5⟩; have HF5 : w5.cell? ⟨K.nb i, 11, none⟩ = some (.pointer (some ⟨K.cb i, 0, none⟩)) ∧ w5.cell? ⟨bx, 1, none⟩ = some (.int .i64 x.l) := ⟨(HA5.out.cells HIN.out 11 (by omega)).1, HCX.out w5 (HOD.out w5 HO5.out)⟩))
          clear HF0 HF5
          have HO6 : Hid (Ot (HtF K vs) wr w5) := HOD.out w5 HO5.out
          have hbl5 := (HA5.out.node i HIN.out).blk.lt
          have hxl5 : bx < w5.heap.size := by have := HO6.out.size; omega
          have hsl5 : bx + 1 < w5.heap.size := by have := HO6.out.size; omega
          have HG0 : w5.drew.cell? ⟨K.nb i, 10, none⟩ = some (.pointer (some ⟨K.rb i, 0, none⟩)) ∧ w5.drew.cell? ⟨bx, 1, none⟩ = some (.int .i64 x.l) := ⟨(HA5.out.cells HIN.out 10 (by omega)).1, HCX.out w5 HO6.out⟩
          have HRD : Hid (Calls Tryd.prog 86 #[.pointer (some ⟨K.rb i, 0, none⟩), .int .i64 now, .int .i64 x.l] w5.drew fun e w' => e = .returned (.tuple #[.int .i64 rv, .bool rk]) ∧ Hid (HtAt K w' s vs ow) ∧ Hid (Ot (HtF K vs) w5.drew w')) := HRC.out w5.drew (HA5.out.below (Below.refl _ _).drew)
          clear HCL HRC hbl hxl hsl
          go_wp2_with fail
          go_region_held3 (fun W => W.cell? ⟨K.nb i, 10, none⟩ = some (.pointer (some ⟨K.rb i, 0, none⟩)) ∧ W.cell? ⟨bx, 1, none⟩ = some (.int .i64 x.l))
            (first | (with_reducible exact HG7) | (with_reducible exact HG6) | (with_reducible exact HG0))
            (first
              | (go_at_call 86; refine HRD.out.mono ?_; rintro e w6 ⟨rfl, HA6, HO7⟩; have HO8 : Hid (Ot (HtF K vs) wr w6) := HO6.out.trans ((Ot.refl _ _).drew.trans HO7.out); have HG6 : w6.cell? ⟨K.nb i, 10, none⟩ = some (.pointer (some ⟨K.rb i, 0, none⟩)) ∧ w6.cell? ⟨bx, 1, none⟩ = some (.int .i64 x.l) := ⟨(HA6.out.cells HIN.out 10 (by omega)).1, HCX.out w6 HO8.out⟩)
              | (go_at_call 84; refine (HHE.out w6 (HSK.out w6 HO8.out).1).mono ?_; rintro e w7 ⟨rfl, HS7, HO9⟩; have HG7 : w7.cell? ⟨K.nb i, 10, none⟩ = some (.pointer (some ⟨K.rb i, 0, none⟩)) ∧ w7.cell? ⟨bx, 1, none⟩ = some (.int .i64 x.l) := ⟨(HO9.out.cell (p := ⟨K.nb i, 10, none⟩) (HA6.out.node i HIN.out).blk.lt (fun hk => (HNX.out (K.nb i) (Or.inr (Or.inr ⟨i, HIN.out, Or.inl rfl⟩))).2 hk)).trans HG6.1, (HO9.out.cell (p := ⟨bx, 1, none⟩) (lt_of_block (HSK.out w6 HO8.out).2.1) (fun hk => absurd hk (Nat.ne_of_lt (Nat.lt_succ_self _)))).trans HG6.2⟩))
          have HA7 : Hid (HtAt K w7 s vs ow) := HA6.out.kept (fun k hk => HO9.out.block k (HA6.out.low k hk) (fun e => (HNX.out k hk).2 e))
          have HOA : Hid (Ot (HtF K vs) w w7) := (HO.out.trans HO8.out).trans' HO9.out (fun k hk hlt => absurd hk (by omega))
          have HX7 : Hid (w7.heap[bx]? = some (.cells #[.int .i64 x.a, .int .i64 x.l, .int .i64 x.f, .int .i64 x.b, .int .i64 x.m, .int .i64 x.n] 60 (0, 0))) := (HO9.out.block _ (lt_of_block (HSK.out w6 HO8.out).2.1) (fun hk => absurd hk (Nat.ne_of_lt (Nat.lt_succ_self _)))).trans (HSK.out w6 HO8.out).2.1
          have HR7 : Hid (R = rdL K s now x.l (hL K (hUp K i)) mx (hearM p rv rk)) := by show R = _; rw [HM.out, HMX.out]
          have c8 : w7.cell? ⟨K.nb i, 8, none⟩ = some (ndV K (hUp K i)) := (HA7.out.cells HIN.out 8 (by omega)).1
          have hbl7 := (HA7.out.node i HIN.out).blk.lt
          obtain ⟨uv, huv⟩ : ∃ uv, ndV K (hUp K i) = uv := ⟨_, rfl⟩
          have HUV : Hid (ndV K (hUp K i) = uv) := huv
          rw [huv] at c8
          clear huv HG0 HG6 HG7 hmx hxl5 hsl5
          go_wp2
          go_roundg (oIdx (hUp K i))
          case measure => omega
          case rel => exact ⟨hUp K i, mx, _, rfl, hup2, HUV.out.symm, rfl, HA7, HOA, HX7, HS7, HR7⟩
        · have HM : Hid (R = (0, false)) := by show R = _; rw [HR2.out, if_neg h1]
          have d1 : decide (x.l ≤ (K.cls i).cR) = false := decide_eq_false h1
          rw [d1] at HCL
          clear HR2 h1 d1
          go_wp2_with fail
          go_region_held3 (fun W => W.cell? ⟨K.nb i, 11, none⟩ = some (.pointer (some ⟨K.cb i, 0, none⟩)) ∧ W.cell? ⟨bx, 1, none⟩ = some (.int .i64 x.l))
            (first | (with_reducible exact HF5) | (with_reducible exact HF0))
            (first | (go_at_call 86; refine HCL.out.mono ?_; rintro e w5 ⟨rfl, HA5, HO5⟩; have HF5 : w5.cell? ⟨K.nb i, 11, none⟩ = some (.pointer (some ⟨K.cb i, 0, none⟩)) ∧ w5.cell? ⟨bx, 1, none⟩ = some (.int .i64 x.l) := ⟨(HA5.out.cells HIN.out 11 (by omega)).1, HCX.out w5 (HOD.out w5 HO5.out)⟩))
          clear HF0 HF5
          go_wp2
          go_ret2
          refine ⟨?_, HA5, HO.out.trans (HOD.out w5 HO5.out)⟩
          rw [HM.out]
          rfl
end Go.Proofs.YtpgdocmpbeabpaaDoor
