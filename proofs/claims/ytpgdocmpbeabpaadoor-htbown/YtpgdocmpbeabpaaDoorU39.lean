/-
  HtbOwn, where nothing is tried: too many packets; a bucket or packets that may not be. Conditions: errors.errorType is laid; the packets lie in memory.
  HtbCeils: what the law counts, step by step. Mathematics of the model alone.
-/
import Derived.Test.YtpgdocmpbeabpaaDoorU38
import Derived.Test.YtpgdocmpbeabpaaDoorU30
import Derived.Test.YtpgdocmpbeabpaaDoorBk3
import Derived.Test.YtpgdocmpbeabpaaDoorZtp
namespace Go.Proofs.YtpgdocmpbeabpaaDoor
open Go.RowKit Go.Extern.Stop Go.Stop Go.Extern

/-- The world when the rate and the bucket lie in memory. -/
def owW (w : World) (n t R : Int) : World := (w.alloc (.cells #[.int .i64 n, .int .i64 t] 44)).alloc (.cells #[.int .i64 n, .int .i64 t, .int .i64 R] 46)
theorem owW_below (w : World) (n t R : Int) : Below w.heap.size w (owW w n t R) := (below_alloc_ (Below.refl _ _) _).alloc (by simp) _
theorem owW_mem {w W : World} {n t R : Int} (h : Below (owW w n t R).heap.size (owW w n t R) W) :
    (W.cell? ⟨w.heap.size, 0, none⟩ = some (.int .i64 n) ∧ W.cell? ⟨w.heap.size, 1, none⟩ = some (.int .i64 t)) ∧ (W.cell? ⟨w.heap.size + 1, 0, none⟩ = some (.int .i64 n) ∧ W.cell? ⟨w.heap.size + 1, 1, none⟩ = some (.int .i64 t) ∧ W.cell? ⟨w.heap.size + 1, 2, none⟩ = some (.int .i64 R)) ∧ w.heap.size + 1 < W.heap.size ∧ w.heap.size < W.heap.size := by
  have hs : (owW w n t R).heap.size = w.heap.size + 2 := by simp [owW]
  have h1 : W.heap[w.heap.size + 1]? = some (.cells #[.int .i64 n, .int .i64 t, .int .i64 R] 46 (0, 0)) := (h.block _ (by omega)).trans (new_block_ (by simp))
  have h0 : W.heap[w.heap.size]? = some (.cells #[.int .i64 n, .int .i64 t] 44 (0, 0)) := (h.block _ (by omega)).trans ((Below.heap_alloc _ _ _ (by simp)).trans (new_block _ _))
  have hl := h.size
  refine ⟨⟨?_, ?_⟩, ⟨?_, ?_, ?_⟩, by omega, by omega⟩
  · simp [World.cell?, h0]
  · simp [World.cell?, h0]
  · simp [World.cell?, h1]
  · simp [World.cell?, h1]
  · simp [World.cell?, h1]

set_option maxRecDepth 20000 in
set_option maxHeartbeats 4000000 in
theorem own_long (lv n t R : Int) (px : Option Addr) (cap : Nat) (k : Nat) (w : World) (hk : 40 < k) (hL : Laid w) :
    Calls Tryd.prog 4 #[.int .i64 lv, .agg #[.int .i64 n, .int .i64 t], .int .i64 R, .slice px k cap] w fun e w' => e = .returned (.bool true) ∧ Below w.heap.size w w' := by
  have g1 : (40 : Int) < (k : Int) := by omega
  have HL : Hid (∀ W, Below w.heap.size w W → Laid W) := fun W hW => hL.below hW
  have HB0 : Hid (Below w.heap.size w (owW w n t R)) := owW_below w n t R
  clear hL hk
  go_enter Tryd.func4, Tryd.ntmps4
  go_wp2_with (go_at_call 12; fail)
  refine (pick_any lv 6 _ (by decide) (by decide)).mono ?_
  rintro e w1 ⟨rfl, rfl⟩
  go_wp2_with (go_at_call 6; fail)
  refine (borrows_any _ (HL.out _ HB0.out)).mono ?_
  rintro e w2 ⟨rfl, hb2⟩
  have HB2 : Hid (Below w.heap.size w w2) := HB0.out.trans (hb2.mono HB0.out.size)
  clear hb2
  go_wp2
  go_ret
  exact ⟨rfl, HB2.out⟩

set_option maxRecDepth 20000 in
set_option maxHeartbeats 4000000 in
theorem own_nob (lv n t R : Int) (px : Option Addr) (cap : Nat) (k : Nat) (w : World) (hk : k ≤ 40) (hb : ¬ okB n t R) (hL : Laid w) :
    Calls Tryd.prog 4 #[.int .i64 lv, .agg #[.int .i64 n, .int .i64 t], .int .i64 R, .slice px k cap] w fun e w' => e = .returned (.bool true) ∧ Below w.heap.size w w' := by
  have g1 : ¬ ((40 : Int) < (k : Int)) := by omega
  have HL : Hid (∀ W, Below w.heap.size w W → Laid W) := fun W hW => hL.below hW
  have HNB : Hid (¬ okB n t R) := hb
  have HB0 : Hid (Below w.heap.size w (owW w n t R)) := owW_below w n t R
  clear hL hk hb
  go_enter Tryd.func4, Tryd.ntmps4
  go_wp2_with (go_at_call 12; fail)
  refine (pick_any lv 6 _ (by decide) (by decide)).mono ?_
  rintro e w1 ⟨rfl, rfl⟩
  go_wp2_with (go_at_call 6; fail)
  refine (borrows_any _ (HL.out _ HB0.out)).mono ?_
  rintro e w2 ⟨rfl, hb2⟩
  have HB2 : Hid (Below w.heap.size w w2) := HB0.out.trans (hb2.mono HB0.out.size)
  have HW2 : Hid (Below (owW w n t R).heap.size (owW w n t R) w2) := hb2
  obtain ⟨⟨r0, r1⟩, ⟨b0, b1, b2⟩, hlt⟩ := owW_mem HW2.out
  clear hb2
  go_wp2_with (go_at_call 13; fail)
  refine (bcheck_no n t R _ HNB.out).mono ?_
  rintro e w3 ⟨rfl, hb3⟩
  have HB3 : Hid (Below w.heap.size w w3) := HB2.out.trans (hb3.mono HB2.out.size)
  clear hb3
  go_wp2_with (go_at_call 6; fail)
  refine (borrows_any _ (HL.out _ HB3.out)).mono ?_
  rintro e w4 ⟨rfl, hb4⟩
  have HB4 : Hid (Below w.heap.size w w4) := HB3.out.trans (hb4.mono HB3.out.size)
  clear hb4
  go_wp2
  go_ret
  exact ⟨rfl, HB4.out⟩

set_option maxRecDepth 20000 in
set_option maxHeartbeats 4000000 in
theorem own_nol (lv n t R : Int) (px : Option Addr) (cap : Nat) (xs : List It) (w : World) (hk : xs.length ≤ 40) (hb : okB n t R) (hx : ¬ okL xs) (hI : ItemsAt w px xs) (hL : Laid w) :
    Calls Tryd.prog 4 #[.int .i64 lv, .agg #[.int .i64 n, .int .i64 t], .int .i64 R, .slice px xs.length cap] w fun e w' => e = .returned (.bool true) ∧ Below w.heap.size w w' := by
  have g1 : ¬ ((40 : Int) < (xs.length : Int)) := by omega
  have HL : Hid (∀ W, Below w.heap.size w W → Laid W) := fun W hW => hL.below hW
  have HI : Hid (∀ W, Below w.heap.size w W → ItemsAt W px xs) := fun W hW => hI.below hW
  have HNB : Hid (okB n t R) := hb
  have HNL : Hid (¬ okL xs) := hx
  have HM : Hid (xs.length ≤ 40) := hk
  have HB0 : Hid (Below w.heap.size w (owW w n t R)) := owW_below w n t R
  clear hL hk hb hx hI
  go_enter Tryd.func4, Tryd.ntmps4
  go_wp2_with (go_at_call 12; fail)
  refine (pick_any lv 6 _ (by decide) (by decide)).mono ?_
  rintro e w1 ⟨rfl, rfl⟩
  go_wp2_with (go_at_call 6; fail)
  refine (borrows_any _ (HL.out _ HB0.out)).mono ?_
  rintro e w2 ⟨rfl, hb2⟩
  have HB2 : Hid (Below w.heap.size w w2) := HB0.out.trans (hb2.mono HB0.out.size)
  have HW2 : Hid (Below (owW w n t R).heap.size (owW w n t R) w2) := hb2
  obtain ⟨⟨r0, r1⟩, ⟨b0, b1, b2⟩, hlt⟩ := owW_mem HW2.out
  clear hb2
  go_wp2_with (go_at_call 13; fail)
  refine (bcheck_yes n t R _ HNB.out).mono ?_
  rintro e w3 ⟨rfl, hb3⟩
  have HB3 : Hid (Below w.heap.size w w3) := HB2.out.trans (hb3.mono HB2.out.size)
  clear hb3
  go_wp2_with (go_at_call 14; fail)
  refine (list_any px cap xs _ (HL.out _ HB3.out) (HI.out _ HB3.out) (by have := HM.out; unfold maxLen; omega)).mono ?_
  rintro e w5 ⟨v, rfl, he, hb5⟩
  have HB5 : Hid (Below w.heap.size w w5) := HB3.out.trans (hb5.mono HB3.out.size)
  obtain ⟨ty, u, rfl⟩ := he.iface HNL.out
  clear hb5 he
  go_wp2_with (go_at_call 6; fail)
  refine (borrows_any _ (HL.out _ HB5.out)).mono ?_
  rintro e w4 ⟨rfl, hb4⟩
  have HB4 : Hid (Below w.heap.size w w4) := HB5.out.trans (hb4.mono HB5.out.size)
  clear hb4
  go_wp2
  go_ret
  exact ⟨rfl, HB4.out⟩
end Go.Proofs.YtpgdocmpbeabpaaDoor
namespace Go.Proofs.YtpgdocmpbeabpaaDoor
open Go.RowKit Go.Extern.Stop Go.Stop Go.Extern

/-- What was put in ahead of a step. -/
def putD (ts : List Stp) : Nat → List It
  | 0 => []
  | i + 1 => match ts[i]? with
    | none => putD ts i
    | some t => if t.what = 0 then putD ts i ++ [⟨t.a, t.l, t.f, t.b, t.m⟩] else putD ts i
theorem putD_succ {ts : List Stp} {i : Nat} {t : Stp} (h : ts[i]? = some t) : putD ts (i + 1) = if t.what = 0 then putD ts i ++ [⟨t.a, t.l, t.f, t.b, t.m⟩] else putD ts i := by simp only [putD, h]
def it0 : It := ⟨0, 0, 0, 0, 0⟩
/-- What went from each class, when one more goes. -/
def gonK (K : HtK) (G : Nat → List It) (now : Int) (y : It) (c : Nat) : List It := if c ∈ hL K (some y.f.toNat) then G c ++ [⟨now, y.l, 0, 0, 0⟩] else G c
/-- What went from each class ahead of a step. -/
def gonD (K : HtK) (ts : List Stp) (ss : List Sn) : Nat → Nat → List It
  | 0 => fun _ => []
  | i + 1 => match ts[i]?, ss[i]? with
    | some t, some sn => if 0 ≤ sn.taken then gonK K (gonD K ts ss i) t.lt ((putD ts (i + 1)).getD sn.taken.toNat it0) else gonD K ts ss i
    | _, _ => gonD K ts ss i
theorem gonD_succ {K : HtK} {ts : List Stp} {ss : List Sn} {i : Nat} {t : Stp} {sn : Sn} (h : ts[i]? = some t) (h2 : ss[i]? = some sn) : gonD K ts ss (i + 1) = if 0 ≤ sn.taken then gonK K (gonD K ts ss i) t.lt ((putD ts (i + 1)).getD sn.taken.toNat it0) else gonD K ts ss i := by simp only [gonD, h, h2]
/-- What the law asks of one step. -/
def GStep (K : HtK) (P : List It) (sn : Sn) : Prop := 0 ≤ sn.taken → ∃ y, P[sn.taken.toNat]? = some y ∧ 0 ≤ y.f ∧ y.f < K.N ∧ 1 ≤ y.l ∧ y.l ≤ 10000
/-- What is so ahead of a step. -/
structure GI (K : HtK) (s : HtS) (n : Nat) (P : List It) (G : Nat → List It) : Prop where
  ci : CI K s G
  len : P.length = n
  has : ∀ c, c < K.N → ∀ x ∈ (s.nd c).L, 1 ≤ x.l ∧ ∃ y, P[x.n.toNat]? = some y ∧ y.l = x.l ∧ y.f = x.f
theorem gstep {K : HtK} (hK : HtKOk K) {s : HtS} {n : Nat} {P : List It} {G : Nat → List It} {t : Int} (h : GI K s n P G) (hI : HtJ K t n s) {st : Stp} (ht : t ≤ st.lt) (ha : st.what = 0 → It.ok ⟨st.a, st.l, st.f, st.b, st.m⟩ = true) :
    GStep K (if st.what = 0 then P ++ [⟨st.a, st.l, st.f, st.b, st.m⟩] else P) (stepQ (HtM K) s n st).2 ∧ GI K (stepQ (HtM K) s n st).1.1 (stepQ (HtM K) s n st).1.2 (if st.what = 0 then P ++ [⟨st.a, st.l, st.f, st.b, st.m⟩] else P) (if 0 ≤ (stepQ (HtM K) s n st).2.taken then gonK K G st.lt ((if st.what = 0 then P ++ [⟨st.a, st.l, st.f, st.b, st.m⟩] else P).getD (stepQ (HtM K) s n st).2.taken.toNat it0) else G) := by
  by_cases hw : st.what = 0
  · have hok := ok_len (x := hdOf st n) (ha hw)
    simp only [stepQ, if_pos hw, GStep]
    refine ⟨fun h => absurd h (by decide), ?_⟩
    rw [if_neg (by decide)]
    refine ⟨h.ci.put (hdOf st n), by simp [h.len], fun c hc x hx => ?_⟩
    have hold : x ∈ (s.nd c).L → 1 ≤ x.l ∧ ∃ y, (P ++ [⟨st.a, st.l, st.f, st.b, st.m⟩])[x.n.toNat]? = some y ∧ y.l = x.l ∧ y.f = x.f := fun hx => by
      obtain ⟨h1, y, h2, h3⟩ := h.has c hc x hx
      refine ⟨h1, y, ?_, h3⟩
      have := hI.fl c hc x hx
      rw [List.getElem?_append_left (by rw [h.len]; omega)]
      exact h2
    by_cases hin : inB K s (hdOf st n) = true
    · have hx' : x ∈ ((putH K s (hdOf st n)).1.nd c).L := hx
      rw [putH_L hin] at hx'
      split at hx'
      · rcases List.mem_append.1 hx' with hx' | hx'
        · exact hold hx'
        · rw [List.mem_singleton.1 hx']
          refine ⟨hok.1, ⟨st.a, st.l, st.f, st.b, st.m⟩, ?_, rfl, rfl⟩
          show (P ++ [_])[((n : Int)).toNat]? = _
          rw [Int.toNat_natCast, List.getElem?_append_right (by rw [h.len]; exact Nat.le_refl _), h.len]
          simp
      · exact hold hx'
    · have e : putH K s (hdOf st n) = (s, [hdOf st n]) := by unfold putH; rw [if_neg hin]
      have hx' : x ∈ ((putH K s (hdOf st n)).1.nd c).L := hx
      rw [e] at hx'
      exact hold hx'
  · simp only [stepQ, if_neg hw]
    by_cases hw1 : st.what = 1
    · simp only [if_pos hw1]
      have hci := h.ci.take hK hI ht (fun c hc x hx => (h.has c hc x hx).1)
      have eM : (HtM K).take s st.lt = takeH K s st.lt := rfl
      simp only [eM]
      cases hb : bestM K (s.at st.lt) st.lt K.N with
      | none =>
        rw [take_none hb] at hci ⊢
        simp only [Bool.false_eq_true, if_false, GStep] at hci ⊢
        refine ⟨fun h => absurd h (by decide), ?_⟩
        rw [if_neg (by decide)]
        exact ⟨hci, h.len, h.has⟩
      | some o =>
        obtain ⟨h1, h2, x, r, h3, h4, h5⟩ := take_some hK hb
        have hL := takeH_L hK hb
        have e3 : (takeH K s st.lt).2.2.1 = x := by rw [h5]
        have e4 : (takeH K s st.lt).2.2.2 = true := by rw [h5]
        rw [e3, e4] at hci
        rw [e3, e4]
        simp only [if_true, GStep] at hci ⊢
        have hx : x ∈ (s.nd o.leaf).L := by rw [h3]; simp
        obtain ⟨q1, y, q2, q3, q4⟩ := h.has o.leaf h1 x hx
        have hfl := hI.fl o.leaf h1 x hx
        have hw := (hI.i.wait o.leaf h1).2 x hx
        have eg : P.getD x.n.toNat it0 = y := by rw [List.getD_eq_getElem?_getD, q2]; rfl
        refine ⟨fun _ => ⟨y, q2, by omega, by omega, by omega, by omega⟩, ?_⟩
        rw [if_pos hfl.2.1, eg]
        have eG : gonK K G st.lt y = gonS K G st.lt x := by
          funext c
          unfold gonK gonS
          rw [q3, q4]
        rw [eG]
        refine ⟨hci, h.len, fun c hc z hz => ?_⟩
        rw [hL] at hz
        split at hz
        · exact h.has c hc z (List.mem_of_mem_tail hz)
        · exact h.has c hc z hz
    · simp only [if_neg hw1, GStep]
      refine ⟨fun h => absurd h (by decide), ?_⟩
      rw [if_neg (by decide)]
      exact ⟨h.ci.later (by have := hI.i.tm; omega), h.len, h.has⟩
theorem GI.start (K : HtK) : GI K ⟨nd0 K, 0, 0⟩ 0 [] (fun _ => []) := ⟨CI.start K, rfl, fun c hc x hx => (by cases hx)⟩
theorem ceil_run {K : HtK} (hK : HtKOk K) (xs : List Stp) (hn : xs.length ≤ 1000) (s0 : (HtM K).σ) (hI0 : (HtM K).inv 0 0 s0) (hG0 : GI K s0 0 [] (fun _ => [])) :
    ∀ i, i ≤ xs.length → GI K (stFrom (HtM K) s0 0 (timesL 0 xs) i).1 (stFrom (HtM K) s0 0 (timesL 0 xs) i).2 (putD (timesL 0 xs) i) (gonD K (timesL 0 xs) (playFrom (HtM K) s0 0 (timesL 0 xs)) i) ∧ ∀ t sn, (timesL 0 xs)[i]? = some t → (playFrom (HtM K) s0 0 (timesL 0 xs))[i]? = some sn → GStep K (putD (timesL 0 xs) (i + 1)) sn := by
  have hinv := inv_run (htM_fine hK) xs hn s0 hI0
  have hstep : ∀ i st, (timesL 0 xs)[i]? = some st → GI K (stFrom (HtM K) s0 0 (timesL 0 xs) i).1 (stFrom (HtM K) s0 0 (timesL 0 xs) i).2 (putD (timesL 0 xs) i) (gonD K (timesL 0 xs) (playFrom (HtM K) s0 0 (timesL 0 xs)) i) → GStep K (putD (timesL 0 xs) (i + 1)) (stepQ (HtM K) (stFrom (HtM K) s0 0 (timesL 0 xs) i).1 (stFrom (HtM K) s0 0 (timesL 0 xs) i).2 st).2 ∧ GI K (stFrom (HtM K) s0 0 (timesL 0 xs) (i + 1)).1 (stFrom (HtM K) s0 0 (timesL 0 xs) (i + 1)).2 (putD (timesL 0 xs) (i + 1)) (gonD K (timesL 0 xs) (playFrom (HtM K) s0 0 (timesL 0 xs)) (i + 1)) := by
    intro i st hst hg
    have hi := (List.getElem?_eq_some_iff.1 hst).1
    rw [timesL_length] at hi
    obtain ⟨t1, t2, t3, t4, t5, t6⟩ := timesL_get hst hn
    have hs := gstep hK hg (hinv i (by omega)) (st := st) t2 t6
    rw [putD_succ hst, gonD_succ hst (playFrom_at hst), stFrom_succ hst, putD_succ hst]
    exact hs
  intro i
  induction i with
  | zero =>
    intro _
    have h0 : GI K (stFrom (HtM K) s0 0 (timesL 0 xs) 0).1 (stFrom (HtM K) s0 0 (timesL 0 xs) 0).2 (putD (timesL 0 xs) 0) (gonD K (timesL 0 xs) (playFrom (HtM K) s0 0 (timesL 0 xs)) 0) := by
      rw [stFrom_zero]
      exact hG0
    refine ⟨h0, fun t sn ht hsn => ?_⟩
    rw [playFrom_at ht] at hsn
    cases hsn
    exact (hstep 0 t ht h0).1
  | succ i ih =>
    intro hi
    obtain ⟨st, hst⟩ : ∃ st, (timesL 0 xs)[i]? = some st := ⟨_, List.getElem?_eq_getElem (by rw [timesL_length]; omega)⟩
    have h1 := (hstep i st hst (ih (by omega)).1).2
    refine ⟨h1, fun t sn ht hsn => ?_⟩
    rw [playFrom_at ht] at hsn
    cases hsn
    exact (hstep (i + 1) t ht h1).1
end Go.Proofs.YtpgdocmpbeabpaaDoor
