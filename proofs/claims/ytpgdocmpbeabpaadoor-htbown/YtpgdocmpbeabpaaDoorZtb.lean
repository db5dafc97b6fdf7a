/-
  package htb: Put. Conditions: the tree lies in memory as its state tells.
-/
import Derived.Test.YtpgdocmpbeabpaaDoorU12
import Derived.Test.YtpgdocmpbeabpaaDoorZta
import Derived.BigQuiet
import Derived.Deep.RegionHeld3
namespace Go.Proofs.YtpgdocmpbeabpaaDoor
open Go.RowKit Go.Extern.Stop Go.Stop Go.Extern

theorem below_drewZ (w : World) (n : Nat) : Below w.heap.size w (w.drewN n) := ⟨rfl, rfl, rfl, Nat.le_refl _, fun _ _ => rfl⟩
/-- One more waits. -/
def addN (s : HtS) (i : Nat) (x : Hd) : HtS := { s with nd := updN s.nd i { s.nd i with L := (s.nd i).L ++ [x] } }
/-- Whether a packet is let in. -/
def inB (K : HtK) (s : HtS) (x : Hd) : Bool := leafB K x.f && decide (((s.nd x.f.toNat).L.length : Int) < K.room) && fitB K x.l (some x.f.toNat)
def putH (K : HtK) (s : HtS) (x : Hd) : HtS × List Hd := if inB K s x then (addN s x.f.toNat x, []) else (s, [x])
theorem HtI.add {K : HtK} {t : Int} {n : Nat} {s : HtS} (h : HtI K t n s) {x : Hd} (hx : 0 ≤ x.l ∧ x.l ≤ 10000) (hin : inB K s x = true) : HtI K t (n + 1) (addN s x.f.toNat x) := by
  have hl : leafB K x.f = true := by unfold inB at hin; simp only [Bool.and_eq_true] at hin; exact hin.1.1
  refine ⟨h.tm, h.t0, fun j hj => ?_, fun j hj => ?_, fun j hj => ?_, fun j hj hi => ?_⟩
  · show BkOk _ _ _ (updN s.nd x.f.toNat _ j).rl (updN s.nd x.f.toNat _ j).ra s.tm
    by_cases e : j = x.f.toNat
    · subst e; rw [updN_same]; exact h.rate _ hj
    · rw [updN_ne e]; exact h.rate j hj
  · show BkOk _ _ _ (updN s.nd x.f.toNat _ j).cl (updN s.nd x.f.toNat _ j).ca s.tm
    by_cases e : j = x.f.toNat
    · subst e; rw [updN_same]; exact h.ceil _ hj
    · rw [updN_ne e]; exact h.ceil j hj
  · show (updN s.nd x.f.toNat _ j).L.length ≤ n + 1 ∧ ∀ y ∈ (updN s.nd x.f.toNat _ j).L, _
    by_cases e : j = x.f.toNat
    · subst e
      rw [updN_same]
      have := h.wait _ hj
      refine ⟨?_, fun y hy => ?_⟩
      · show ((s.nd x.f.toNat).L ++ [x]).length ≤ n + 1
        rw [List.length_append]
        simp
        omega
      · have hy' : y ∈ (s.nd x.f.toNat).L ++ [x] := hy
        rcases List.mem_append.1 hy' with hy' | hy'
        · exact this.2 y hy'
        · rw [List.mem_singleton.1 hy']; exact hx
    · rw [updN_ne e]
      have := h.wait j hj
      exact ⟨by omega, this.2⟩
  · show (updN s.nd x.f.toNat _ j).L = []
    by_cases e : j = x.f.toNat
    · exfalso
      subst e
      unfold leafB at hl
      rw [hi] at hl
      simp at hl
    · rw [updN_ne e]; exact h.inner j hj hi
theorem HtI.more {K : HtK} {t : Int} {n n' : Nat} {s : HtS} (h : HtI K t n s) (hn : n ≤ n') : HtI K t n' s := ⟨h.tm, h.t0, h.rate, h.ceil, fun i hi => by have := h.wait i hi; exact ⟨by omega, this.2⟩, h.inner⟩
theorem HtI.later {K : HtK} {t t' : Int} {n : Nat} {s : HtS} (h : HtI K t n s) (ht : t ≤ t') : HtI K t' n s := ⟨by have := h.tm; omega, h.t0, h.rate, h.ceil, h.wait, h.inner⟩
set_option maxRecDepth 20000 in
set_option maxHeartbeats 4000000 in
theorem put_ht {K : HtK} {s : HtS} {vs : Nat → Value} {ow : Nat → Nat × Nat} {t : Int} {n : Nat} (hK : HtKOk K) (now : Int) (x : Hd) (w : World) (h : HtAt K w s vs ow) (hI : HtI K t n s) (hnn : n ≤ 1000) (hx : 0 ≤ x.l ∧ x.l ≤ 10000) :
    Calls Tryd.prog 15 #[.pointer (some ⟨K.tb, 0, none⟩), .int .i64 now, .agg #[.int .i64 x.a, .int .i64 x.l, .int .i64 x.f, .int .i64 x.b, .int .i64 x.m, .int .i64 x.n]] w fun e w' => ∃ u vs' ow', e = .returned u ∧ Hs w' u (putH K s x).2 ∧ Hid (HtAt K w' (putH K s x).1 vs' ow') ∧ Hid (∀ k, HtF K vs' k → HtF K vs k ∨ w.heap.size ≤ k) ∧ (∀ k, u.ownBlock = some k → w.heap.size ≤ k) ∧ Hid (Ot (HtF K vs) w w') := by
  have H : Hid (HtAt K w s vs ow) := h
  have HA0 : Hid (HtAt K (w.alloc (.cells #[.int .i64 x.a, .int .i64 x.l, .int .i64 x.f, .int .i64 x.b, .int .i64 x.m, .int .i64 x.n] 60)) s vs ow) := h.below (below_alloc_ (Below.refl _ _) _)
  have HO0 : Hid (Ot (HtF K vs) w (w.alloc (.cells #[.int .i64 x.a, .int .i64 x.l, .int .i64 x.f, .int .i64 x.b, .int .i64 x.m, .int .i64 x.n] 60))) := (Ot.refl _ _).alloc _
  have HB0 : Hid ((w.alloc (.cells #[.int .i64 x.a, .int .i64 x.l, .int .i64 x.f, .int .i64 x.b, .int .i64 x.m, .int .i64 x.n] 60)).heap[w.heap.size]? = some (.cells #[.int .i64 x.a, .int .i64 x.l, .int .i64 x.f, .int .i64 x.b, .int .i64 x.m, .int .i64 x.n] 60 (0, 0))) := new_block _ _
  have HLW : Hid (∀ k, HtF K vs k → k < w.heap.size) := h.low
  have hb0 := HB0.out
  obtain ⟨⟨c0, c1, c2, c3, c4, c5⟩, _⟩ := six hb0
  have hl0 := lt_of_block hb0
  have HLF : Hid (∀ W, HtAt K W s vs ow → Calls Tryd.prog 28 #[.pointer (some ⟨K.tb, 0, none⟩), .int .i64 x.f] W fun e w' => e = .returned (.tuple #[if leafB K x.f then .pointer (some ⟨K.nb x.f.toNat, 0, none⟩) else .pointer none, .bool (leafB K x.f)]) ∧ w' = W) := fun W hW => leaf_ht hK x.f W hW
  clear hb0
  cases hlf : leafB K x.f with
  | false =>
    have hP : putH K s x = (s, [x]) := by unfold putH inB; rw [hlf]; rfl
    rw [hP]
    have HL1 := HLF.out (w.alloc (.cells #[.int .i64 x.a, .int .i64 x.l, .int .i64 x.f, .int .i64 x.b, .int .i64 x.m, .int .i64 x.n] 60)) HA0.out
    rw [hlf] at HL1
    simp only [Bool.false_eq_true, if_false] at HL1
    clear HLF hK hI hnn hx h hlf hP
    go_enter Tryd.func15, Tryd.ntmps15
    go_wp2_with fail
    generalize w.alloc (.cells #[.int .i64 x.a, .int .i64 x.l, .int .i64 x.f, .int .i64 x.b, .int .i64 x.m, .int .i64 x.n] 60) = w0 at *
    refine HL1.mono ?_
    rintro e w1 ⟨rfl, rfl⟩
    go_wp2
    go_quiet (fail)
    go_wp2
    go_ret
    exact ⟨.slice (some ⟨w1.heap.size, 0, none⟩) 1 1, vs, ow, rfl, Hs.one (new_block _ _), (HA0.out.below (below_drewZ w1 _)).below (below_alloc_ (Below.refl _ _) _), fun k hk => Or.inl hk, fun k hk => by cases hk; have := HO0.out.size; show w.heap.size ≤ w1.heap.size; omega, (HO0.out.drewN _).alloc _⟩
  | true =>
    obtain ⟨i, hi⟩ : ∃ i, x.f.toNat = i := ⟨_, rfl⟩
    have hiN : i < K.N := by
      unfold leafB at hlf
      simp only [Bool.and_eq_true, decide_eq_true_eq] at hlf
      omega
    have HIN : Hid (i < K.N) := hiN
    have HL1 := HLF.out (w.alloc (.cells #[.int .i64 x.a, .int .i64 x.l, .int .i64 x.f, .int .i64 x.b, .int .i64 x.m, .int .i64 x.n] 60)) HA0.out
    rw [hlf, hi] at HL1
    simp only [if_true] at HL1
    have hw := hI.wait i hiN
    obtain ⟨ln, hln⟩ : ∃ ln, (s.nd i).L.length = ln := ⟨_, rfl⟩
    have HLN : Hid (∀ W, HtAt K W s vs ow → Calls Tryd.prog 29 #[.pointer (some ⟨K.nb i, 12, none⟩)] W fun e w' => e = .returned (.int .i64 (ln : Int)) ∧ w' = W) := fun W hW => by rw [← hln]; exact lenO_any W (hW.node i hiN)
    have HFT : Hid (∀ W, HtAt K W s vs ow → Calls Tryd.prog 30 #[.pointer (some ⟨K.nb i, 0, none⟩), .int .i64 x.l] W fun e w' => e = .returned (.bool (fitB K x.l (some i))) ∧ w' = W) := fun W hW => fits_ht hK x.l hiN W hW
    have HAD : Hid (∀ W, HtAt K W s vs ow → w.heap.size ≤ W.heap.size → Calls Tryd.prog 31 #[.pointer (some ⟨K.nb i, 12, none⟩), .agg #[.int .i64 x.a, .int .i64 x.l, .int .i64 x.f, .int .i64 x.b, .int .i64 x.m, .int .i64 x.n]] W fun e w' => e = .returned (.tuple #[]) ∧ ∃ vs' ow', Hid (HtAt K w' (addN s i x) vs' ow') ∧ Hid (∀ k, HtF K vs' k → HtF K vs k ∨ W.heap.size ≤ k) ∧ Hid (Ot (HtF K vs) W w')) := by
      intro W hW _
      refine (addO_any x W (hW.node i hiN) ⟨by rw [List.length_append]; simp; omega, fun y hy => by rcases List.mem_append.1 hy with hy | hy; exact hw.2 y hy; rw [List.mem_singleton.1 hy]; exact hx⟩).mono ?_
      rintro e w' ⟨rfl, v', h1, h3, h4⟩
      obtain ⟨ow', h5, h6⟩ := hW.nodeSet hiN (x := { s.nd i with L := (s.nd i).L ++ [x] }) (v' := v') rfl rfl rfl rfl h1.node h4 h3
      refine ⟨rfl, _, ow', h5, h6, h4.mono (fun k _ e => ?_)⟩
      rcases e with rfl | e
      · exact Or.inr (Or.inr ⟨i, hiN, Or.inl rfl⟩)
      · exact Or.inr (Or.inr ⟨i, hiN, Or.inr (Or.inr (Or.inr e))⟩)
    have hrt := HA0.out.root
    have r0 : (w.alloc (.cells #[.int .i64 x.a, .int .i64 x.l, .int .i64 x.f, .int .i64 x.b, .int .i64 x.m, .int .i64 x.n] 60)).cell? ⟨K.tb, 0, none⟩ = some (.int .i64 K.room) := by simp only [World.cell?]; rw [hrt]; rfl
    have lrt := lt_of_block hrt
    have lnb := (HA0.out.node i hiN).blk.lt
    have hPE : putH K s x = if decide ((ln : Int) < K.room) && fitB K x.l (some i) then (addN s i x, []) else (s, [x]) := by
      unfold putH inB
      rw [hlf, hi, hln]
      rfl
    have hrm := hK.room
    have hlnb : ln ≤ 1000 := by omega
    clear HLF hK hI hnn hx h hlf hrt hi hw hln
    by_cases hroom : K.room ≤ (ln : Int)
    · have hP : putH K s x = (s, [x]) := by rw [hPE, decide_eq_false (by omega : ¬ (ln : Int) < K.room)]; rfl
      have d0 : decide (K.room ≤ (ln : Int)) = true := decide_eq_true hroom
      rw [hP]
      clear hPE hP hroom HFT HAD
      go_enter Tryd.func15, Tryd.ntmps15
      go_wp2_with fail
      generalize w.alloc (.cells #[.int .i64 x.a, .int .i64 x.l, .int .i64 x.f, .int .i64 x.b, .int .i64 x.m, .int .i64 x.n] 60) = w0 at *
      refine HL1.mono ?_
      rintro e w1 ⟨rfl, rfl⟩
      go_wp2
      go_quiet ((go_at_call 29; exact Calls.quiet_of_same (HLN.out _ (HA0.out.below (below_drewZ _ _)))))
      go_wp2
      go_ret
      exact ⟨.slice (some ⟨w1.heap.size, 0, none⟩) 1 1, vs, ow, rfl, Hs.one (new_block _ _), (HA0.out.below (below_drewZ w1 _)).below (below_alloc_ (Below.refl _ _) _), fun k hk => Or.inl hk, fun k hk => by cases hk; have := HO0.out.size; show w.heap.size ≤ w1.heap.size; omega, (HO0.out.drewN _).alloc _⟩
    · have d0 : decide (K.room ≤ (ln : Int)) = false := decide_eq_false hroom
      cases hft : fitB K x.l (some i) with
      | false =>
        have hP : putH K s x = (s, [x]) := by rw [hPE, hft, Bool.and_false]; rfl
        rw [hP]
        rw [hft] at HFT
        clear hPE hP hroom hft HAD
        go_enter Tryd.func15, Tryd.ntmps15
        go_wp2_with fail
        generalize w.alloc (.cells #[.int .i64 x.a, .int .i64 x.l, .int .i64 x.f, .int .i64 x.b, .int .i64 x.m, .int .i64 x.n] 60) = w0 at *
        refine HL1.mono ?_
        rintro e w1 ⟨rfl, rfl⟩
        go_wp2
        go_quiet (first | (go_at_call 29; exact Calls.quiet_of_same (HLN.out _ (HA0.out.below (below_drewZ _ _)))) | (go_at_call 30; exact Calls.quiet_of_same (HFT.out _ (HA0.out.below (below_drewZ _ _)))))
        go_wp2
        go_ret
        exact ⟨.slice (some ⟨w1.heap.size, 0, none⟩) 1 1, vs, ow, rfl, Hs.one (new_block _ _), (HA0.out.below (below_drewZ w1 _)).below (below_alloc_ (Below.refl _ _) _), fun k hk => Or.inl hk, fun k hk => by cases hk; have := HO0.out.size; show w.heap.size ≤ w1.heap.size; omega, (HO0.out.drewN _).alloc _⟩
      | true =>
        have hP : putH K s x = (addN s i x, []) := by rw [hPE, hft, decide_eq_true (by omega : (ln : Int) < K.room)]; rfl
        rw [hP]
        rw [hft] at HFT
        clear hPE hP hroom hft
        go_enter Tryd.func15, Tryd.ntmps15
        go_wp2_with fail
        generalize w.alloc (.cells #[.int .i64 x.a, .int .i64 x.l, .int .i64 x.f, .int .i64 x.b, .int .i64 x.m, .int .i64 x.n] 60) = w0 at *
        refine HL1.mono ?_
        rintro e w1 ⟨rfl, rfl⟩
        go_wp2
        go_quiet (first | (go_at_call 29; exact Calls.quiet_of_same (HLN.out _ (HA0.out.below (below_drewZ _ _)))) | (go_at_call 30; exact Calls.quiet_of_same (HFT.out _ (HA0.out.below (below_drewZ _ _)))))
        go_wp2_with fail
        have HA1 : Hid (HtAt K (w1.drewN nq) s vs ow) := HA0.out.below (below_drewZ w1 nq)
        have HO1 : Hid (Ot (HtF K vs) w (w1.drewN nq)) := HO0.out.drewN nq
        have HF00 : (w1.drewN nq).cell? ⟨w.heap.size, 0, none⟩ = some (.int .i64 x.a) ∧ (w1.drewN nq).cell? ⟨w.heap.size, 1, none⟩ = some (.int .i64 x.l) ∧ (w1.drewN nq).cell? ⟨w.heap.size, 2, none⟩ = some (.int .i64 x.f) ∧ (w1.drewN nq).cell? ⟨w.heap.size, 3, none⟩ = some (.int .i64 x.b) ∧ (w1.drewN nq).cell? ⟨w.heap.size, 4, none⟩ = some (.int .i64 x.m) ∧ (w1.drewN nq).cell? ⟨w.heap.size, 5, none⟩ = some (.int .i64 x.n) := ⟨c0, c1, c2, c3, c4, c5⟩
        have hsz : w.heap.size < (w1.drewN nq).heap.size := hl0
        generalize w1.drewN nq = w2 at *
        have HCF : Hid (∀ W, Ot (HtF K vs) w2 W → W.cell? ⟨w.heap.size, 0, none⟩ = some (.int .i64 x.a) ∧ W.cell? ⟨w.heap.size, 1, none⟩ = some (.int .i64 x.l) ∧ W.cell? ⟨w.heap.size, 2, none⟩ = some (.int .i64 x.f) ∧ W.cell? ⟨w.heap.size, 3, none⟩ = some (.int .i64 x.b) ∧ W.cell? ⟨w.heap.size, 4, none⟩ = some (.int .i64 x.m) ∧ W.cell? ⟨w.heap.size, 5, none⟩ = some (.int .i64 x.n)) := by
          intro W hW
          have hc : ∀ j, W.cell? ⟨w.heap.size, j, none⟩ = w2.cell? ⟨w.heap.size, j, none⟩ := fun j => hW.cell (p := ⟨w.heap.size, j, none⟩) hsz (fun hk => by have h : w.heap.size < w.heap.size := HLW.out _ hk; omega)
          simp only [hc]
          exact HF00
        have HF0 : w2.drew.cell? ⟨w.heap.size, 0, none⟩ = some (.int .i64 x.a) ∧ w2.drew.cell? ⟨w.heap.size, 1, none⟩ = some (.int .i64 x.l) ∧ w2.drew.cell? ⟨w.heap.size, 2, none⟩ = some (.int .i64 x.f) ∧ w2.drew.cell? ⟨w.heap.size, 3, none⟩ = some (.int .i64 x.b) ∧ w2.drew.cell? ⟨w.heap.size, 4, none⟩ = some (.int .i64 x.m) ∧ w2.drew.cell? ⟨w.heap.size, 5, none⟩ = some (.int .i64 x.n) := HF00
        have HADD := HAD.out w2.drew (HA1.out.below (Below.refl _ _).drew) (by have := HO1.out.size; exact this)
        clear HF00 c0 c1 c2 c3 c4 c5 hl0 HLN HFT r0 lrt lnb d0 HAD HB0
        go_region_held3 (fun W => W.cell? ⟨w.heap.size, 0, none⟩ = some (.int .i64 x.a) ∧ W.cell? ⟨w.heap.size, 1, none⟩ = some (.int .i64 x.l) ∧ W.cell? ⟨w.heap.size, 2, none⟩ = some (.int .i64 x.f) ∧ W.cell? ⟨w.heap.size, 3, none⟩ = some (.int .i64 x.b) ∧ W.cell? ⟨w.heap.size, 4, none⟩ = some (.int .i64 x.m) ∧ W.cell? ⟨w.heap.size, 5, none⟩ = some (.int .i64 x.n))
          (first | (with_reducible exact HF3) | (with_reducible exact HF0))
          (first | (go_at_call 31; refine HADD.mono ?_; rintro e w3 ⟨rfl, vs3, ow3, HA3, HFF3, HO3⟩; have HF3 := HCF.out w3 ((Ot.refl _ _).drew.trans HO3.out)))
        go_wp2
        go_ret
        have hfin : Hid (∀ k, HtF K vs3 k → HtF K vs k ∨ w.heap.size ≤ k) := fun k hk => by
          rcases HFF3.out k hk with h | h
          · exact Or.inl h
          · exact Or.inr (Nat.le_trans HO1.out.size h)
        exact ⟨.slice none 0 0, vs3, ow3, rfl, Seg.nil _ _ _, HA3, hfin, fun k hk => (by simp [Value.ownBlock] at hk), HO1.out.trans ((Ot.refl _ _).drew.trans HO3.out)⟩
end Go.Proofs.YtpgdocmpbeabpaaDoor
