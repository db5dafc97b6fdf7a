/-
  early.Red: whether a packet is hit. Conditions: the queue lies in memory; numbers within bounds.
-/
import Derived.Test.YtejomfmbhifeaaaDoorRd1
namespace Go.Proofs.YtejomfmbhifeaaaDoor
open Go.RowKit Go.Extern.Stop Go.Stop Go.Extern

def decR (q : RSet) (s : RdS) (m : Int) : Bool × RdS :=
  if 1000 * (q.hi - q.lo) - s.since * (q.often * (m - q.lo)) ≤ 0 then (true, s)
  else (decide (drawV s.tape * (1000 * (q.hi - q.lo) - s.since * (q.often * (m - q.lo))) < 1000 * (q.often * (m - q.lo))), { s with since := s.since + 1, tape := s.tape.tail })
def hitR (q : RSet) (s : RdS) : Bool × RdS :=
  if meanR q s.sum < q.lo then (false, { s with since := 0 }) else if q.hi ≤ meanR q s.sum then (true, { s with since := 0 })
  else ((decR q s (meanR q s.sum)).1, if (decR q s (meanR q s.sum)).1 then { (decR q s (meanR q s.sum)).2 with since := 0 } else (decR q s (meanR q s.sum)).2)
theorem mul_bd {a b A B : Int} (h0 : 0 ≤ a) (h1 : a ≤ A) (k0 : 0 ≤ b) (k1 : b ≤ B) : 0 ≤ a * b ∧ a * b ≤ A * B := ⟨Int.mul_nonneg h0 k0, Int.mul_le_mul h1 k1 k0 (by omega)⟩
theorem RedP.since {w : World} {b : Nat} {P R : Int} {q : RSet} {v tv : Value} {s : RdS} (h : RedP w b P R q v tv s) (n : Int) : RedP (w.setCell ⟨b, 12, none⟩ (.int .i64 n)) b P R q v tv { s with since := n } :=
  ⟨LAt.rest h.pos 10 (.int .i64 n) rfl, Seg.setCell (p := ⟨b, 12, none⟩) h.tape h.tb _, h.tb, h.tvv⟩
theorem RedP.sum {w : World} {b : Nat} {P R : Int} {q : RSet} {v tv : Value} {s : RdS} (h : RedP w b P R q v tv s) (n : Int) : RedP (w.setCell ⟨b, 11, none⟩ (.int .i64 n)) b P R q v tv { s with sum := n } :=
  ⟨LAt.rest h.pos 9 (.int .i64 n) rfl, Seg.setCell (p := ⟨b, 11, none⟩) h.tape h.tb _, h.tb, h.tvv⟩
set_option maxHeartbeats 2000000 in
theorem decides_any {b : Nat} {P R : Int} {q : RSet} {v tv : Value} {s : RdS} (m : Int) (w : World) (h : RedP w b P R q v tv s) (hq : q.Ok) (hm0 : q.lo ≤ m) (hm1 : m < q.hi) (hc0 : 0 ≤ s.since) (hc1 : s.since ≤ 100000) :
    Calls Tryd.prog 79 #[.pointer (some ⟨b, 0, none⟩), .int .i64 m] w fun e w' => e = .returned (.bool (decR q s m).1) ∧ ∃ tv', RedP w' b P R q v tv' (decR q s m).2 ∧ tv'.ownBlock = tv.ownBlock ∧ Ot (· = b) w w' := by
  have H : Hid (RedP w b P R q v tv s) := h
  have hb := LAt.lt h.pos
  obtain ⟨⟨c5, c6, c7, c8, c9, c10, c11, c12⟩, f10, f11, f12⟩ := h.pos.cells
  clear h
  have l0 := hq.lo0
  have l1 := hq.lohi
  have l2 := hq.hi1
  have l3 := hq.of0
  have l4 := hq.of1
  obtain ⟨o, ho⟩ : ∃ o, q.often * (m - q.lo) = o := ⟨_, rfl⟩
  have ho0 := mul_bd (a := q.often) (b := m - q.lo) (A := 1000) (B := 1000000) (by omega) l4 (by omega) (by omega)
  rw [ho] at ho0
  obtain ⟨p, hp⟩ : ∃ p, s.since * o = p := ⟨_, rfl⟩
  have hp0 := mul_bd (a := s.since) (b := o) (A := 100000) (B := 1000000000) hc0 hc1 ho0.1 (by omega)
  rw [hp] at hp0
  have hw0 : IntKind.i64.wrap (m - q.lo) = m - q.lo := by rw [IntKind.wrap_i64]; omega
  have hw1 : IntKind.i64.wrap (q.often * (m - q.lo)) = o := by rw [ho, IntKind.wrap_i64]; omega
  have hw2 : IntKind.i64.wrap (s.since * o) = p := by rw [hp, IntKind.wrap_i64]; omega
  have hw3 : IntKind.i64.wrap (q.hi - q.lo) = q.hi - q.lo := by rw [IntKind.wrap_i64]; omega
  have hw4 : IntKind.i64.wrap (1000 * (q.hi - q.lo)) = 1000 * (q.hi - q.lo) := by rw [IntKind.wrap_i64]; omega
  obtain ⟨r, hr⟩ : ∃ r, 1000 * (q.hi - q.lo) - p = r := ⟨_, rfl⟩
  have hw5 : IntKind.i64.wrap (1000 * (q.hi - q.lo) - p) = r := by rw [IntKind.wrap_i64]; omega
  have hr1 : r ≤ 1000000000 := by omega
  by_cases hneg : r ≤ 0
  · have hD : decR q s m = (true, s) := by unfold decR; rw [ho, hp, hr, if_pos hneg]
    rw [hD]
    clear hD ho hp hr
    go_enter Tryd.func79, Tryd.ntmps79
    go_wp2
    go_quiet (fail)
    go_wp2
    go_quiet (fail)
    go_wp2
    go_ret
    exact ⟨rfl, tv, H.out.drewN _, rfl, (Ot.refl _ _).drewN _⟩
  · have hD : decR q s m = (decide (drawV s.tape * r < 1000 * o), { s with since := s.since + 1, tape := s.tape.tail }) := by unfold decR; rw [ho, hp, hr, if_neg hneg]
    rw [hD]
    have hdv := drawV_bd s.tape
    obtain ⟨dv, hdv'⟩ : ∃ dv, drawV s.tape = dv := ⟨_, rfl⟩
    have HDV : Hid (drawV s.tape = dv) := hdv'
    rw [hdv'] at hdv ⊢
    obtain ⟨y, hy⟩ : ∃ y, dv * r = y := ⟨_, rfl⟩
    have hy0 := mul_bd (a := dv) (b := r) (A := 999) (B := 1000000000) hdv.1 hdv.2 (by omega) hr1
    rw [hy] at hy0 ⊢
    have hw6 : IntKind.i64.wrap (dv * r) = y := by rw [hy, IntKind.wrap_i64]; omega
    have hw7 : IntKind.i64.wrap (1000 * o) = 1000 * o := by rw [IntKind.wrap_i64]; omega
    have HRN : Hid (r > 0) := by show r > 0; omega
    clear hD ho hp hr hy hdv'
    go_enter Tryd.func79, Tryd.ntmps79
    go_wp2
    go_quiet (fail)
    go_wp2
    go_quiet (fail)
    go_wp2_with (go_at_call 83; fail)
    refine (draw_any _ ((H.out.drewN _).since (s.since + 1))).mono ?_
    rintro e w2 ⟨rfl, tv', hr2, hk2, ho2⟩
    rw [HDV.out]
    go_wp2
    go_ret
    exact ⟨rfl, tv', hr2, hk2, (Ot.setCell (S := (· = b)) ((Ot.refl _ _).drewN _) (Or.inl rfl) _).trans ho2⟩
set_option maxHeartbeats 2000000 in
theorem hits_any {b : Nat} {P R : Int} {q : RSet} {v tv : Value} {s : RdS} (w : World) (h : RedP w b P R q v tv s) (hq : q.Ok) (hc0 : 0 ≤ s.since) (hc1 : s.since ≤ 100000) :
    Calls Tryd.prog 76 #[.pointer (some ⟨b, 0, none⟩)] w fun e w' => e = .returned (.bool (hitR q s).1) ∧ ∃ tv', RedP w' b P R q v tv' (hitR q s).2 ∧ tv'.ownBlock = tv.ownBlock ∧ Ot (· = b) w w' := by
  have H : Hid (RedP w b P R q v tv s) := h
  have hb := LAt.lt h.pos
  have HME := mean_any w h.pos hq
  obtain ⟨⟨c5, c6, c7, c8, c9, c10, c11, c12⟩, f10, f11, f12⟩ := h.pos.cells
  clear h
  obtain ⟨m, hm⟩ : ∃ m, meanR q s.sum = m := ⟨_, rfl⟩
  rw [hm] at HME
  by_cases h1 : m < q.lo
  · have hD : hitR q s = (false, { s with since := 0 }) := by unfold hitR; rw [hm, if_pos h1]
    rw [hD]
    clear hD hm
    go_enter Tryd.func76, Tryd.ntmps76
    go_wp2_with (go_at_call 12; refine HME.mono ?_; rintro e w1 ⟨rfl, n1, hw1⟩; subst hw1)
    go_ret
    exact ⟨rfl, tv, (H.out.drewN _).since 0, rfl, Ot.setCell (S := (· = b)) ((Ot.refl _ _).drewN _) (Or.inl rfl) _⟩
  by_cases h2 : q.hi ≤ m
  · have hD : hitR q s = (true, { s with since := 0 }) := by unfold hitR; rw [hm, if_neg h1, if_pos h2]
    rw [hD]
    clear hD hm
    go_enter Tryd.func76, Tryd.ntmps76
    go_wp2_with (go_at_call 12; refine HME.mono ?_; rintro e w1 ⟨rfl, n1, hw1⟩; subst hw1)
    go_ret
    exact ⟨rfl, tv, (H.out.drewN _).since 0, rfl, Ot.setCell (S := (· = b)) ((Ot.refl _ _).drewN _) (Or.inl rfl) _⟩
  have h2d : decide (q.hi ≤ m) = false := decide_eq_false h2
  have HDE := fun W (hW : RedP W b P R q v tv s) => decides_any m W hW hq (by omega) (by omega) hc0 hc1
  obtain ⟨d, hd⟩ : ∃ d, decR q s m = d := ⟨_, rfl⟩
  obtain ⟨hit, s2⟩ := d
  rw [hd] at HDE
  cases hit with
  | true =>
    have hD : hitR q s = (true, { s2 with since := 0 }) := by unfold hitR; rw [hm, if_neg h1, if_neg h2, hd]; rfl
    rw [hD]
    clear hD hm hd
    go_enter Tryd.func76, Tryd.ntmps76
    go_wp2_with (first | (go_at_call 12; refine HME.mono ?_; rintro e w1 ⟨rfl, n1, hw1⟩; subst hw1) | (go_at_call 79; refine (HDE _ (H.out.drewN _)).mono ?_; rintro e w2 ⟨rfl, tv2, hr2, hk2, ho2⟩; have hb2 := LAt.lt hr2.pos; obtain ⟨⟨d5, d6, d7, d8, d9, d10, d11, d12⟩, e10, e11, e12⟩ := hr2.pos.cells))
    go_ret
    exact ⟨rfl, tv2, hr2.since 0, hk2, Ot.setCell (S := (· = b)) (((Ot.refl _ _).drewN _).trans ho2) (Or.inl rfl) _⟩
  | false =>
    have hD : hitR q s = (false, s2) := by unfold hitR; rw [hm, if_neg h1, if_neg h2, hd]; rfl
    rw [hD]
    clear hD hm hd
    go_enter Tryd.func76, Tryd.ntmps76
    go_wp2_with (first | (go_at_call 12; refine HME.mono ?_; rintro e w1 ⟨rfl, n1, hw1⟩; subst hw1) | (go_at_call 79; refine (HDE _ (H.out.drewN _)).mono ?_; rintro e w2 ⟨rfl, tv2, hr2, hk2, ho2⟩; have hb2 := LAt.lt hr2.pos; obtain ⟨⟨d5, d6, d7, d8, d9, d10, d11, d12⟩, e10, e11, e12⟩ := hr2.pos.cells))
    go_ret
    exact ⟨rfl, tv2, hr2, hk2, ((Ot.refl _ _).drewN _).trans ho2⟩
end Go.Proofs.YtejomfmbhifeaaaDoor
