/-
  early.Red: whether a packet is hit. Conditions: the queue lies in memory; numbers within bounds.
  early.Red: what Put does. Conditions: the queue lies in memory; numbers within bounds; few packets.
  early.New: an empty Red in memory of its own, where room and setup may be and the tape is not too long; else the error. Conditions: the tape lies in memory.
  early.New: an empty Red in memory of its own, where room and setup may be and the tape is not too long; else the error. Conditions: the tape lies in memory.
  early.New: an empty Red in memory of its own, where room and setup may be and the tape is not too long; else the error. Conditions: the tape lies in memory.
  early.New: the error, where room or setup may not be, or the tape is too long. No condition.
-/
import Derived.Test.YtfakjedolecdcaaGreatDoorU21
import Derived.Test.YtfakjedolecdcaaGreatDoorU17
namespace Go.Proofs.YtfakjedolecdcaaGreatDoor
open Go.RowKit Go.Extern.Stop Go.Stop Go.Extern

def decR (q : RSet) (s : RdS) (m : Int) : Bool × RdS :=
  if 1000 * (q.hi - q.lo) - s.since * (q.often * (m - q.lo)) ≤ 0 then (true, s)
  else (decide (drawV s.tape * (1000 * (q.hi - q.lo) - s.since * (q.often * (m - q.lo))) < 1000 * (q.often * (m - q.lo))), { s with since := s.since + 1, tape := s.tape.tail })
def hitR (q : RSet) (s : RdS) : Bool × RdS :=
  if meanR q s.sum < q.lo then (false, { s with since := 0 }) else if q.hi ≤ meanR q s.sum then (true, { s with since := 0 })
  else ((decR q s (meanR q s.sum)).1, if (decR q s (meanR q s.sum)).1 then { (decR q s (meanR q s.sum)).2 with since := 0 } else (decR q s (meanR q s.sum)).2)
theorem mul_bd {a b A B : Int} (h0 : 0 ≤ a) (h1 : a ≤ A) (k0 : 0 ≤ b) (k1 : b ≤ B) : 0 ≤ a * b ∧ a * b ≤ A * B := ⟨Int.mul_nonneg h0 k0, Int.mul_le_mul h1 k1 k0 (by omega)⟩
theorem RedP.since {w : World} {b : Nat} {P R : Int} {q : RSet} {v tv : Value} {s : RdS} (h : RedP w b P R q v tv s) (n : Int) : RedP (w.setCell ⟨b, 12, none⟩ (.int .i64 n)) b P R q v tv { s with since := n } :=
  ⟨LAt.rest h.pos 10 (.int .i64 n) rfl, Seg.setCell (p := ⟨b, 12, none⟩) h.tape h.tb _, h.tb, h.tvv⟩
theorem RedP.sum {w : World} {b : Nat} {P R : Int} {q : RSet} {v tv : Value} {s : RdS} (h : RedP w b P R q v tv s) (n : Int) : RedP (w.setCell ⟨b, 11, none⟩ (.int .i64 n)) b P R q v tv { s with sum := n } :=
  ⟨LAt.rest h.pos 9 (.int .i64 n) rfl, Seg.setCell (p := ⟨b, 11, none⟩) h.tape h.tb _, h.tb, h.tvv⟩
set_option maxHeartbeats 2000000 in
theorem decides_any {b : Nat} {P R : Int} {q : RSet} {v tv : Value} {s : RdS} (m : Int) (w : World) (h : RedP w b P R q v tv s) (hq : q.Ok) (hm0 : q.lo ≤ m) (hm1 : m < q.hi) (hc0 : 0 ≤ s.since) (hc1 : s.since ≤ 100000) :
    Calls Tryz.prog 152 #[.pointer (some ⟨b, 0, none⟩), .int .i64 m] w fun e w' => e = .returned (.bool (decR q s m).1) ∧ ∃ tv', RedP w' b P R q v tv' (decR q s m).2 ∧ tv'.ownBlock = tv.ownBlock ∧ Ot (· = b) w w' := by
  have H : Hid (RedP w b P R q v tv s) := h
  have hb := LAt.lt h.pos
  obtain ⟨⟨c5, c6, c7, c8, c9, c10, c11, c12⟩, f10, f11, f12⟩ := h.pos.cells
  clear h
  have l0 := hq.lo0
  have l1 := hq.lohi
  have l2 := hq.hi1
  have l3 := hq.of0
  have l4 := hq.of1
  obtain ⟨o, ho⟩ : ∃ o, q.often * (m - q.lo) = o := ⟨_, rfl⟩
  have ho0 := mul_bd (a := q.often) (b := m - q.lo) (A := 1000) (B := 1000000) (by omega) l4 (by omega) (by omega)
  rw [ho] at ho0
  obtain ⟨p, hp⟩ : ∃ p, s.since * o = p := ⟨_, rfl⟩
  have hp0 := mul_bd (a := s.since) (b := o) (A := 100000) (B := 1000000000) hc0 hc1 ho0.1 (by omega)
  rw [hp] at hp0
  have hw0 : IntKind.i64.wrap (m - q.lo) = m - q.lo := by rw [IntKind.wrap_i64]; omega
  have hw1 : IntKind.i64.wrap (q.often * (m - q.lo)) = o := by rw [ho, IntKind.wrap_i64]; omega
  have hw2 : IntKind.i64.wrap (s.since * o) = p := by rw [hp, IntKind.wrap_i64]; omega
  have hw3 : IntKind.i64.wrap (q.hi - q.lo) = q.hi - q.lo := by rw [IntKind.wrap_i64]; omega
  have hw4 : IntKind.i64.wrap (1000 * (q.hi - q.lo)) = 1000 * (q.hi - q.lo) := by rw [IntKind.wrap_i64]; omega
  obtain ⟨r, hr⟩ : ∃ r, 1000 * (q.hi - q.lo) - p = r := ⟨_, rfl⟩
  have hw5 : IntKind.i64.wrap (1000 * (q.hi - q.lo) - p) = r := by rw [IntKind.wrap_i64]; omega
  have hr1 : r ≤ 1000000000 := by omega
  by_cases hneg : r ≤ 0
  · have hD : decR q s m = (true, s) := by unfold decR; rw [ho, hp, hr, if_pos hneg]
    rw [hD]
    clear hD ho hp hr
    go_enter Tryz.func152, Tryz.ntmps152
    go_wp2
    go_quiet (fail)
    go_wp2
    go_quiet (fail)
    go_wp2
    go_ret
    exact ⟨rfl, tv, H.out.drewN _, rfl, (Ot.refl _ _).drewN _⟩
  · have hD : decR q s m = (decide (drawV s.tape * r < 1000 * o), { s with since := s.since + 1, tape := s.tape.tail }) := by unfold decR; rw [ho, hp, hr, if_neg hneg]
    rw [hD]
    have hdv := drawV_bd s.tape
    obtain ⟨dv, hdv'⟩ : ∃ dv, drawV s.tape = dv := ⟨_, rfl⟩
    have HDV : Hid (drawV s.tape = dv) := hdv'
    rw [hdv'] at hdv ⊢
    obtain ⟨y, hy⟩ : ∃ y, dv * r = y := ⟨_, rfl⟩
    have hy0 := mul_bd (a := dv) (b := r) (A := 999) (B := 1000000000) hdv.1 hdv.2 (by omega) hr1
    rw [hy] at hy0 ⊢
    have hw6 : IntKind.i64.wrap (dv * r) = y := by rw [hy, IntKind.wrap_i64]; omega
    have hw7 : IntKind.i64.wrap (1000 * o) = 1000 * o := by rw [IntKind.wrap_i64]; omega
    have HRN : Hid (r > 0) := by show r > 0; omega
    clear hD ho hp hr hy hdv'
    go_enter Tryz.func152, Tryz.ntmps152
    go_wp2
    go_quiet (fail)
    go_wp2
    go_quiet (fail)
    go_wp2_with (go_at_call 153; fail)
    refine (rddraw_any _ ((H.out.drewN _).since (s.since + 1))).mono ?_
    rintro e w2 ⟨rfl, tv', hr2, hk2, ho2⟩
    rw [HDV.out]
    go_wp2
    go_ret
    exact ⟨rfl, tv', hr2, hk2, (Ot.setCell (S := (· = b)) ((Ot.refl _ _).drewN _) (Or.inl rfl) _).trans ho2⟩
set_option maxHeartbeats 2000000 in
theorem hits_any {b : Nat} {P R : Int} {q : RSet} {v tv : Value} {s : RdS} (w : World) (h : RedP w b P R q v tv s) (hq : q.Ok) (hc0 : 0 ≤ s.since) (hc1 : s.since ≤ 100000) :
    Calls Tryz.prog 151 #[.pointer (some ⟨b, 0, none⟩)] w fun e w' => e = .returned (.bool (hitR q s).1) ∧ ∃ tv', RedP w' b P R q v tv' (hitR q s).2 ∧ tv'.ownBlock = tv.ownBlock ∧ Ot (· = b) w w' := by
  have H : Hid (RedP w b P R q v tv s) := h
  have hb := LAt.lt h.pos
  have HME := mean_any w h.pos hq
  obtain ⟨⟨c5, c6, c7, c8, c9, c10, c11, c12⟩, f10, f11, f12⟩ := h.pos.cells
  clear h
  obtain ⟨m, hm⟩ : ∃ m, meanR q s.sum = m := ⟨_, rfl⟩
  rw [hm] at HME
  by_cases h1 : m < q.lo
  · have hD : hitR q s = (false, { s with since := 0 }) := by unfold hitR; rw [hm, if_pos h1]
    rw [hD]
    clear hD hm
    go_enter Tryz.func151, Tryz.ntmps151
    go_wp2_with (go_at_call 150; refine HME.mono ?_; rintro e w1 ⟨rfl, n1, hw1⟩; subst hw1)
    go_ret
    exact ⟨rfl, tv, (H.out.drewN _).since 0, rfl, Ot.setCell (S := (· = b)) ((Ot.refl _ _).drewN _) (Or.inl rfl) _⟩
  by_cases h2 : q.hi ≤ m
  · have hD : hitR q s = (true, { s with since := 0 }) := by unfold hitR; rw [hm, if_neg h1, if_pos h2]
    rw [hD]
    clear hD hm
    go_enter Tryz.func151, Tryz.ntmps151
    go_wp2_with (go_at_call 150; refine HME.mono ?_; rintro e w1 ⟨rfl, n1, hw1⟩; subst hw1)
    go_ret
    exact ⟨rfl, tv, (H.out.drewN _).since 0, rfl, Ot.setCell (S := (· = b)) ((Ot.refl _ _).drewN _) (Or.inl rfl) _⟩
  have h2d : decide (q.hi ≤ m) = false := decide_eq_false h2
  have HDE := fun W (hW : RedP W b P R q v tv s) => decides_any m W hW hq (by omega) (by omega) hc0 hc1
  obtain ⟨d, hd⟩ : ∃ d, decR q s m = d := ⟨_, rfl⟩
  obtain ⟨hit, s2⟩ := d
  rw [hd] at HDE
  cases hit with
  | true =>
    have hD : hitR q s = (true, { s2 with since := 0 }) := by unfold hitR; rw [hm, if_neg h1, if_neg h2, hd]; rfl
    rw [hD]
    clear hD hm hd
    go_enter Tryz.func151, Tryz.ntmps151
    go_wp2_with (first | (go_at_call 150; refine HME.mono ?_; rintro e w1 ⟨rfl, n1, hw1⟩; subst hw1) | (go_at_call 152; refine (HDE _ (H.out.drewN _)).mono ?_; rintro e w2 ⟨rfl, tv2, hr2, hk2, ho2⟩; have hb2 := LAt.lt hr2.pos; obtain ⟨⟨d5, d6, d7, d8, d9, d10, d11, d12⟩, e10, e11, e12⟩ := hr2.pos.cells))
    go_ret
    exact ⟨rfl, tv2, hr2.since 0, hk2, Ot.setCell (S := (· = b)) (((Ot.refl _ _).drewN _).trans ho2) (Or.inl rfl) _⟩
  | false =>
    have hD : hitR q s = (false, s2) := by unfold hitR; rw [hm, if_neg h1, if_neg h2, hd]; rfl
    rw [hD]
    clear hD hm hd
    go_enter Tryz.func151, Tryz.ntmps151
    go_wp2_with (first | (go_at_call 150; refine HME.mono ?_; rintro e w1 ⟨rfl, n1, hw1⟩; subst hw1) | (go_at_call 152; refine (HDE _ (H.out.drewN _)).mono ?_; rintro e w2 ⟨rfl, tv2, hr2, hk2, ho2⟩; have hb2 := LAt.lt hr2.pos; obtain ⟨⟨d5, d6, d7, d8, d9, d10, d11, d12⟩, e10, e11, e12⟩ := hr2.pos.cells))
    go_ret
    exact ⟨rfl, tv2, hr2, hk2, ((Ot.refl _ _).drewN _).trans ho2⟩
end Go.Proofs.YtfakjedolecdcaaGreatDoor
namespace Go.Proofs.YtfakjedolecdcaaGreatDoor
open Go.RowKit Go.Extern.Stop Go.Stop Go.Extern

/-- The mean goes on. -/
def sumR (q : RSet) (s : RdS) : RdS := { s with sum := s.sum + (sumL s.L - meanR q s.sum) }
def marked (x : Hd) : Hd := { x with m := 255 }
/-- What Put leaves, and what it throws away. -/
def putR (P R : Int) (q : RSet) (s : RdS) (x : Hd) : RdS × List Hd :=
  if (hitR q (sumR q s)).1 then
    if q.mrk then ({ (hitR q (sumR q s)).2 with L := (putF P R false s.L (marked x)).2 }, (putF P R false s.L (marked x)).1)
    else ((hitR q (sumR q s)).2, [x])
  else ({ (hitR q (sumR q s)).2 with L := (putF P R false s.L x).2 }, (putF P R false s.L x).1)
theorem decR_L (q : RSet) (s : RdS) (m : Int) : (decR q s m).2.L = s.L ∧ (decR q s m).2.sum = s.sum ∧ s.since ≤ (decR q s m).2.since ∧ (decR q s m).2.since ≤ s.since + 1 := by
  unfold decR
  split
  · exact ⟨rfl, rfl, Int.le_refl _, by show s.since ≤ s.since + 1; omega⟩
  · exact ⟨rfl, rfl, by show s.since ≤ s.since + 1; omega, Int.le_refl _⟩
theorem hitR_L (q : RSet) (s : RdS) (h : 0 ≤ s.since) : (hitR q s).2.L = s.L ∧ (hitR q s).2.sum = s.sum ∧ 0 ≤ (hitR q s).2.since ∧ (hitR q s).2.since ≤ s.since + 1 := by
  obtain ⟨h1, h2, h3, h4⟩ := decR_L q s (meanR q s.sum)
  unfold hitR
  split
  · exact ⟨rfl, rfl, Int.le_refl _, by show (0 : Int) ≤ _; omega⟩
  · split
    · exact ⟨rfl, rfl, Int.le_refl _, by show (0 : Int) ≤ _; omega⟩
    · show (if _ then _ else _ : RdS).L = _ ∧ _
      split
      · exact ⟨h1, h2, Int.le_refl _, by show (0 : Int) ≤ _; omega⟩
      · exact ⟨h1, h2, Int.le_trans h h3, h4⟩
theorem RedP.below {w w' : World} {b : Nat} {P R : Int} {q : RSet} {v tv : Value} {s : RdS} (h : RedP w b P R q v tv s) (hb : Below w.heap.size w w') : RedP w' b P R q v tv s := h.kept (hb.block b (LAt.lt h.pos)) (fun k hk => hb.block k (h.pos.row.lt hk)) (fun k hk => hb.block k (Seg.lt h.tape hk))
theorem red_after {w2 w' : World} {b : Nat} {P R : Int} {q : RSet} {v v' tv : Value} {s : RdS} {L' : List Hd} (hr : RedP w2 b P R q v tv s) (hl : LAt w' b 152 (frest P R false (rmore q tv s)) v' L') (hk : ∀ k, v'.ownBlock = some k → v.ownBlock = some k ∨ w2.heap.size ≤ k) (ho : Ot (fun k => k = b ∨ v.ownBlock = some k) w2 w') : RedP w' b P R q v' tv { s with L := L' } := by
  refine ⟨hl, Seg.oth hr.tape ho (fun k hk' h => ?_), hr.tb, fun k hk' e => ?_⟩
  · rcases h with rfl | h
    · exact hr.tb hk'
    · exact hr.tvv k hk' h
  · rcases hk k e with h | h
    · exact hr.tvv k hk' h
    · have := Seg.lt hr.tape hk'; omega
set_option maxRecDepth 20000 in
set_option maxHeartbeats 2000000 in
theorem rput_any {b : Nat} {P R : Int} {q : RSet} {v tv : Value} {s : RdS} (now : Int) (x : Hd) (w : World) (h : RedP w b P R q v tv s) (hq : q.Ok) (hF : Fit (s.L ++ [x])) (hP : 0 ≤ P) (hR : 0 ≤ R) (hR1 : R ≤ 1000000) (hc0 : 0 ≤ s.since) (hc1 : s.since ≤ 100000) (h0 : 0 ≤ s.sum) (h1 : s.sum ≤ 1000000000000) :
    Calls Tryz.prog 149 #[.pointer (some ⟨b, 0, none⟩), .int .i64 now, x.val] w fun e w' => ∃ u v' tv', e = .returned u ∧ Hs w' u (putR P R q s x).2 ∧ RedP w' b P R q v' tv' (putR P R q s x).1 ∧ (∀ k, v'.ownBlock = some k → v.ownBlock = some k ∨ w.heap.size ≤ k) ∧ tv'.ownBlock = tv.ownBlock ∧ (∀ k, u.ownBlock = some k → w.heap.size ≤ k) ∧ Ot (fun k => k = b ∨ v.ownBlock = some k) w w' := by
  have H : Hid (RedP w b P R q v tv s) := h
  have hb := LAt.lt h.pos
  have hV := Hd.val_eq
  have HA : Hid (∀ (o : Obj) (n : Nat), RedP ((w.alloc o).drewN n) b P R q v tv s) := fun o n => (h.below (below_alloc_ (Below.refl _ _) _)).drewN n
  obtain ⟨⟨c5, c6, c7, c8, c9, c10, c11, c12⟩, f10, f11, f12⟩ := h.pos.cells
  have hsl := Fit.sum hF.pref.2
  have hfl := hF.1
  obtain ⟨sl, hsl'⟩ : ∃ sl, sumL s.L = sl := ⟨_, rfl⟩
  have hmb := meanR_bd q h0
  obtain ⟨m, hm⟩ : ∃ m, meanR q s.sum = m := ⟨_, rfl⟩
  rw [hm] at hmb
  have hsl2 : 0 ≤ sl ∧ sl ≤ 10000000000 := by rw [hsl'] at hsl; simp at hfl; omega
  have HSM : Hid (sumR q s = { s with sum := s.sum + (sl - m) }) := by show _ = _; rw [sumR, hsl', hm]
  have HBY : Hid (∀ W : World, RedP W b P R q v tv s → Calls Tryz.prog 138 #[.pointer (some ⟨b, 0, none⟩)] W fun e w' => e = .returned (.int .i64 sl) ∧ w' = W) := fun W hW => by
    have := bytes_any W hW.pos
    rw [hsl'] at this
    exact this
  have HME : Hid (∀ W : World, RedP W b P R q v tv s → Calls Tryz.prog 150 #[.pointer (some ⟨b, 0, none⟩)] W fun e w' => e = .returned (.int .i64 m) ∧ ∃ n, w' = W.drewN n) := fun W hW => by
    have := mean_any W hW.pos hq
    rw [hm] at this
    exact this
  have hwA : IntKind.i64.wrap (sl - m) = sl - m := by rw [IntKind.wrap_i64]; omega
  have hwB : IntKind.i64.wrap (s.sum + (sl - m)) = s.sum + (sl - m) := by rw [IntKind.wrap_i64]; omega
  clear h hsl hsl' hm
  go_enter Tryz.func149, Tryz.ntmps149
  go_upto_region 1 with (fail)
  go_cut [] (fun wc => ∃ n, wc = ((w.alloc (.cells #[.int .i64 x.a, .int .i64 x.l, .int .i64 x.f, .int .i64 x.b, .int .i64 x.m, .int .i64 x.n] 76)).drewN n).setCell ⟨b, 11, none⟩ (.int .i64 (s.sum + (sl - m))))
  case first =>
    go_region_with (first | (go_at_call 138; refine (HBY.out _ (HA.out _ _)).mono ?_; rintro e w1 ⟨rfl, hw1⟩; subst hw1) | (go_at_call 150; refine (HME.out _ (HA.out _ _)).mono ?_; rintro e w1 ⟨rfl, n1, hw1⟩; subst hw1))
    all_goals
      go_wp2
      go_meet
      case rel => exact ⟨_, rfl⟩
  case rest =>
    obtain ⟨n, rfl⟩ := hcut
    have HR1 : Hid (RedP (((w.alloc (.cells #[.int .i64 x.a, .int .i64 x.l, .int .i64 x.f, .int .i64 x.b, .int .i64 x.m, .int .i64 x.n] 76)).drewN n).setCell ⟨b, 11, none⟩ (.int .i64 (s.sum + (sl - m)))) b P R q v tv (sumR q s)) := by
      show RedP _ _ _ _ _ _ _ _
      rw [HSM.out]
      exact (HA.out _ n).sum _
    have hbx : (((w.alloc (.cells #[.int .i64 x.a, .int .i64 x.l, .int .i64 x.f, .int .i64 x.b, .int .i64 x.m, .int .i64 x.n] 76)).drewN n).setCell ⟨b, 11, none⟩ (.int .i64 (s.sum + (sl - m)))).heap[w.heap.size]? = some (.cells #[.int .i64 x.a, .int .i64 x.l, .int .i64 x.f, .int .i64 x.b, .int .i64 x.m, .int .i64 x.n] 76 (0, 0)) := heap_other (by omega) (heap_drew (new_block w _))
    have HO1 : Hid (Ot (· = b) w (((w.alloc (.cells #[.int .i64 x.a, .int .i64 x.l, .int .i64 x.f, .int .i64 x.b, .int .i64 x.m, .int .i64 x.n] 76)).drewN n).setCell ⟨b, 11, none⟩ (.int .i64 (s.sum + (sl - m))))) := Ot.setCell (S := (· = b)) (Ot.drewN (Ot.alloc (Ot.refl _ _) _) _) (Or.inl rfl) _
    have HBX : Hid ((((w.alloc (.cells #[.int .i64 x.a, .int .i64 x.l, .int .i64 x.f, .int .i64 x.b, .int .i64 x.m, .int .i64 x.n] 76)).drewN n).setCell ⟨b, 11, none⟩ (.int .i64 (s.sum + (sl - m)))).heap[w.heap.size]? = some (.cells #[.int .i64 x.a, .int .i64 x.l, .int .i64 x.f, .int .i64 x.b, .int .i64 x.m, .int .i64 x.n] 76 (0, 0))) := hbx
    have HHI := hits_any _ HR1.out hq (by show 0 ≤ s.since; exact hc0) (by show s.since ≤ _; exact hc1)
    obtain ⟨e1, e2, e3, e4⟩ := hitR_L q (sumR q s) hc0
    have HEL : Hid ((hitR q (sumR q s)).2.L = s.L) := e1
    obtain ⟨hh, hhe⟩ : ∃ hh, hitR q (sumR q s) = hh := ⟨_, rfl⟩
    have HPR : Hid (putR P R q s x = if hh.1 then if q.mrk then ({ hh.2 with L := (putF P R false s.L (marked x)).2 }, (putF P R false s.L (marked x)).1) else (hh.2, [x]) else ({ hh.2 with L := (putF P R false s.L x).2 }, (putF P R false s.L x).1)) := by show _ = _; rw [← hhe]; rfl
    rw [hhe] at HHI HEL
    obtain ⟨hit, s2⟩ := hh
    clear e1 e2 e3 e4 hhe hbx
    have HSZ : Hid (w.heap.size < (((w.alloc (.cells #[.int .i64 x.a, .int .i64 x.l, .int .i64 x.f, .int .i64 x.b, .int .i64 x.m, .int .i64 x.n] 76)).drewN n).setCell ⟨b, 11, none⟩ (.int .i64 (s.sum + (sl - m)))).heap.size) := lt_of_block HBX.out
    go_wp2_with (go_at_call 151; fail)
    refine HHI.mono ?_
    rintro e w2 ⟨rfl, tv2, hr2, hk2, ho2⟩
    have hbx2 : w2.heap[w.heap.size]? = some (.cells #[.int .i64 x.a, .int .i64 x.l, .int .i64 x.f, .int .i64 x.b, .int .i64 x.m, .int .i64 x.n] 76 (0, 0)) := by rw [ho2.block _ HSZ.out (by omega)]; exact HBX.out
    have HO2 : Hid (Ot (· = b) w w2) := HO1.out.trans ho2
    have HR2 : Hid (RedP w2 b P R q v tv2 s2) := hr2
    obtain ⟨⟨z0, z1, z2, z3, z4, z5⟩, y0, y1, y2, y3, y4, y5⟩ := six hbx2
    obtain ⟨⟨d5, d6, d7, d8, d9, d10, d11, d12⟩, g10, g11, g12⟩ := hr2.pos.cells
    have hb2 := LAt.lt hr2.pos
    have hw2 := lt_of_block hbx2
    clear ho2 hr2 HHI
    have HFP : Hid (∀ (W : World) (tv3 : Value) (s3 : RdS) (y : Hd), RedP W b P R q v tv3 s3 → s3.L = s.L → Fit (s.L ++ [y]) → Calls Tryz.prog 140 #[.pointer (some ⟨b, 0, none⟩), .int .i64 now, y.val] W fun e w' => ∃ u v', e = .returned u ∧ Hs w' u (putF P R false s.L y).1 ∧ RedP w' b P R q v' tv3 { s3 with L := (putF P R false s.L y).2 } ∧ (∀ k, v'.ownBlock = some k → v.ownBlock = some k ∨ W.heap.size ≤ k) ∧ (∀ k, u.ownBlock = some k → W.heap.size ≤ k) ∧ Ot (fun k => k = b ∨ v.ownBlock = some k) W w') := by
      intro W tv3 s3 y hr3 hL3 hF3
      have hp := hr3.pos
      unfold DRed at hp
      rw [hL3] at hp
      refine (fifo_put now y W hp hF3 hP hR hR1).mono ?_
      rintro e w' ⟨u, v', rfl, hu, hl, hk, hn', ho⟩
      exact ⟨u, v', rfl, hu, red_after hr3 hl hk ho, hk, hn', ho⟩
    cases hit with
    | true =>
      cases hmk : q.mrk with
      | false =>
        have hPR : putR P R q s x = (s2, [x]) := by rw [HPR.out, hmk]; rfl
        have HPP : Hid (putR P R q s x = (s2, [x])) := hPR
        clear hPR
        go_wp2
        go_ret
        rw [HPP.out]
        refine ⟨.slice (some ⟨w2.heap.size, 0, none⟩) 1 1, v, tv2, rfl, Hs.one (new_block_ (by simp)), HR2.out.below (below_alloc_ (Below.refl _ _) _), fun k hk => Or.inl hk, hk2, fun k hk => ?_, (HO2.out.mono (fun k _ h => Or.inl h)).alloc _⟩
        simp only [Value.ownBlock, Option.some.injEq] at hk
        subst hk
        exact HO2.out.size
      | true =>
        have hPR : putR P R q s x = ({ s2 with L := (putF P R false s.L (marked x)).2 }, (putF P R false s.L (marked x)).1) := by rw [HPR.out, hmk]; rfl
        have HPP : Hid (putR P R q s x = ({ s2 with L := (putF P R false s.L (marked x)).2 }, (putF P R false s.L (marked x)).1)) := hPR
        clear hPR
        have HFT : Hid (Fit (s.L ++ [marked x])) := ⟨by simpa using hF.1, fun y hy => by
          rcases List.mem_append.1 hy with h | h
          · exact hF.2 y (List.mem_append_left _ h)
          · simp at h; subst h; exact hF.2 x (by simp)⟩
        have HR3 : Hid (∀ n', RedP ((w2.setCell ⟨w.heap.size, 4, none⟩ (.int .i64 255)).drewN n') b P R q v tv2 s2) := fun n' => (HR2.out.kept (heap_other (b := w.heap.size) (by omega) rfl) (fun k hk => heap_other (b := w.heap.size) (by have := H.out.pos.row.lt hk; omega) rfl) (fun k hk => heap_other (b := w.heap.size) (by have := Seg.lt H.out.tape (by rw [← hk2, hk]); omega) rfl)).drewN n'
        have HVM : Hid ((marked x).val = .agg #[.int .i64 x.a, .int .i64 x.l, .int .i64 x.f, .int .i64 x.b, .int .i64 255, .int .i64 x.n]) := Hd.val_eq (marked x)
        go_wp2
        go_region_with (go_at_call 140; refine (HFP.out _ tv2 s2 (marked x) (HR3.out 1) HEL.out HFT.out).mono ?_; rintro e w4 ⟨u4, v4, rfl, hu4, hl4, hk4, hn4, ho4⟩)
        all_goals
          go_wp2
          go_ret
          rw [HPP.out]
          refine ⟨u4, v4, tv2, rfl, hu4, hl4, fun k hk => ?_, hk2, fun k hk => ?_, ?_⟩
          · rcases hk4 k hk with h | h
            · exact Or.inl h
            · exact Or.inr (by have := HO2.out.size; simp at h; omega)
          · have := hn4 k hk
            have h2 := HO2.out.size
            simp at this
            omega
          · exact Ot.trans (S := fun k => k = b ∨ v.ownBlock = some k) (show Ot _ w _ from by
              have hO := HO2.out.mono (T := fun k => k = b ∨ v.ownBlock = some k) (fun k _ h => Or.inl h)
              repeat' (first | with_reducible exact hO | with_reducible refine Ot.drewN ?_ _ | with_reducible refine Ot.setCell ?_ (by simp) _)) ho4
    | false =>
      have hPR : putR P R q s x = ({ s2 with L := (putF P R false s.L x).2 }, (putF P R false s.L x).1) := by rw [HPR.out]; rfl
      have HPP : Hid (putR P R q s x = ({ s2 with L := (putF P R false s.L x).2 }, (putF P R false s.L x).1)) := hPR
      clear hPR
      have HR3 : Hid (∀ n', RedP (w2.drewN n') b P R q v tv2 s2) := fun n' => HR2.out.drewN n'
      go_wp2
      go_region_with (go_at_call 140; refine (HFP.out _ tv2 s2 x (HR3.out 1) HEL.out hF).mono ?_; rintro e w4 ⟨u4, v4, rfl, hu4, hl4, hk4, hn4, ho4⟩)
      all_goals
        go_wp2
        go_ret
        rw [HPP.out]
        refine ⟨u4, v4, tv2, rfl, hu4, hl4, fun k hk => ?_, hk2, fun k hk => ?_, ?_⟩
        · rcases hk4 k hk with h | h
          · exact Or.inl h
          · exact Or.inr (by have := HO2.out.size; simp at h; omega)
        · have := hn4 k hk
          have h2 := HO2.out.size
          simp at this
          omega
        · exact Ot.trans (S := fun k => k = b ∨ v.ownBlock = some k) (show Ot _ w _ from by
            have hO := HO2.out.mono (T := fun k => k = b ∨ v.ownBlock = some k) (fun k _ h => Or.inl h)
            repeat' (first | with_reducible exact hO | with_reducible refine Ot.drewN ?_ _ | with_reducible refine Ot.setCell ?_ (by simp) _)) ho4
end Go.Proofs.YtfakjedolecdcaaGreatDoor
namespace Go.Proofs.YtfakjedolecdcaaGreatDoor
open Go.RowKit Go.Extern.Stop Go.Stop Go.Extern

def tapeL (m : Nat) (f : Nat → Int) : List Int := (List.range m).map f
theorem tapeL_get {m : Nat} {f : Nat → Int} {j : Nat} (h : j < m) : (tapeL m f)[j]? = some (f j) := by
  unfold tapeL
  rw [List.getElem?_map, List.getElem?_range h]
  rfl
theorem tapeL_len (m : Nat) (f : Nat → Int) : (tapeL m f).length = m := by simp [tapeL]
theorem nilSomeI (a : Addr) (n c : Nat) (w : World) : (binOp .eql 22 (.slice (some a) n c) (.slice none 0 0)).run Tryz.prog w = .ok (.bool false) w := by kernel_rfl
theorem nilNoneI (w : World) : (binOp .eql 22 (.slice none 0 0) (.slice none 0 0)).run Tryz.prog w = .ok (.bool true) w := by kernel_rfl
theorem seg_emptyI {w : World} {b : Nat} (h : w.heap[b]? = some (.cells #[] 3 (0, 0))) : Seg w 3 1 (.slice (some ⟨b, 0, none⟩) 0 0) 0 [] := ⟨rfl, Or.inr ⟨b, 0, 0, #[], rfl, h, Nat.le_refl _, Nat.zero_le _, by simp, fun j u hj => by simp at hj⟩⟩
set_option maxHeartbeats 1000000 in
theorem cloneI {px : Option Addr} {m pcap : Nat} {f : Nat → Int} (w : World) (h : IRow w px m f) (hn : px = none → m = 0 ∧ pcap = 0) (hm : m ≤ 1000000) :
    Calls Tryz.prog 65 #[.slice px m pcap] w fun e w' => ∃ tv, e = .returned tv ∧ Ins w' tv (tapeL m f) ∧ (∀ k, tv.ownBlock = some k → w.heap.size ≤ k) ∧ Below w.heap.size w w' := by
  have hnS := nilSomeI
  have hnN := nilNoneI
  obtain ⟨i0, hi, hz0, hz1, hz2⟩ := info_parts infoInt1
  cases px with
  | none =>
    obtain ⟨rfl, rfl⟩ := hn rfl
    clear h hn
    go_enter Tryz.func65, Tryz.ntmps65
    go_wp2
    go_ret
    exact ⟨_, rfl, Ins.nil _, fun k hk => by simp [Value.ownBlock] at hk, Below.refl _ _⟩
  | some a =>
    by_cases hm0 : m = 0
    · subst hm0
      clear h hn
      go_enter Tryz.func65, Tryz.ntmps65
      go_wp2
      go_ret
      exact ⟨.slice (some ⟨w.heap.size, 0, none⟩) 0 0, rfl, seg_emptyI (new_block_ rfl), fun k hk => by simp [Value.ownBlock] at hk; omega, below_alloc_ (Below.refl _ _) _⟩
    · obtain ⟨pb, poff, hpa, hpb, hpc⟩ : ∃ b off, some a = some ⟨b, off, none⟩ ∧ b < w.heap.size ∧ ∀ i, i < m → w.cell? ⟨b, off + i, none⟩ = some (.int .i64 (f i)) := by
        rcases h with h | h
        · omega
        · exact h
      obtain rfl := Option.some.inj hpa
      have HC : Hid (∀ i, i < m → w.cell? ⟨pb, poff + i, none⟩ = some (.int .i64 (f i))) := hpc
      clear h hn hpc hpa
      go_enter Tryz.func65, Tryz.ntmps65
      go_wp2_with (at_builtin; refine wpList_append_seg _ rfl (.tmp 5) (.tmp 6) 22 rfl 3 i0 _ 1 8 Tryz.underlying22 hi hz0 hz1 hz2 rfl (by decide) (.slice (some ⟨w.heap.size, 0, none⟩) 0 0) 0 [] rfl (seg_emptyI (new_block_ rfl)) ⟨pb, poff, none⟩ m pcap ((tapeL m f).map (Value.int .i64)) rfl (by simp [tapeL]) (fun j u hj => by { rw [Addr.add_lit, World.cell?_alloc_lt _ _ _ (by exact hpb)]; rw [List.getElem?_map] at hj; obtain ⟨z, hz, rfl⟩ := Option.map_eq_some_iff.1 hj; have hjm : j < m := (by have := (List.getElem?_eq_some_iff.1 hz).1; rw [tapeL_len] at this; exact this); rw [tapeL_get hjm] at hz; rw [HC.out j hjm]; exact congrArg _ (congrArg _ (Option.some.inj hz)) }) (by simp [Value.oneCell']) (by omega) (by unfold maxLen; omega) (by omega) _ rfl ?_; intro g goff gcap w1 hs1 hg1 ha1 hl1)
      go_ret
      refine ⟨.slice (some ⟨g, goff, none⟩) m gcap, by simp, ?_, fun k hk => ?_, below_grown_ (below_alloc_ (Below.refl _ _) _) hg1 (fun k hk => by simp [Value.ownBlock] at hk; omega)⟩
      · unfold Ins
        rw [tapeL_len]
        simpa using hs1
      · simp only [Value.ownBlock, Option.some.injEq] at hk
        subst hk
        rcases ha1 with h | h
        · simp [Value.ownBlock] at h; omega
        · simp at h; omega
end Go.Proofs.YtfakjedolecdcaaGreatDoor
namespace Go.Proofs.YtfakjedolecdcaaGreatDoor
open Go.RowKit Go.Extern.Stop Go.Stop Go.Extern

def RSet.val (q : RSet) : Value := .agg #[.int .i64 q.lo, .int .i64 q.hi, .int .i64 q.often, .int .i64 q.sl, .bool q.mrk]
theorem RSet.val_eq (q : RSet) : q.val = .agg #[.int .i64 q.lo, .int .i64 q.hi, .int .i64 q.often, .int .i64 q.sl, .bool q.mrk] := rfl
set_option maxHeartbeats 1000000 in
theorem right_yes (q : RSet) (w : World) (h : q.Ok) : Calls Tryz.prog 64 #[q.val] w fun e w' => e = .returned (.bool true) ∧ Below w.heap.size w w' := by
  obtain ⟨h1, h2, h3, h4, h5, h6, h7⟩ := h
  rw [RSet.val_eq]
  go_enter Tryz.func64, Tryz.ntmps64
  go_wp2
  go_ret
  exact ⟨rfl, below_alloc_ (Below.refl _ _) _⟩
set_option maxHeartbeats 4000000 in
theorem right_no (q : RSet) (w : World) (h : ¬ q.Ok) : Calls Tryz.prog 64 #[q.val] w fun e w' => e = .returned (.bool false) ∧ Below w.heap.size w w' := by
  rw [RSet.val_eq]
  by_cases a1 : 0 ≤ q.lo ∧ q.lo < q.hi ∧ q.hi ≤ 1000000
  · obtain ⟨h1, h2, h3⟩ := a1
    by_cases a2 : 1 ≤ q.often ∧ q.often ≤ 1000
    · obtain ⟨h4, h5⟩ := a2
      have h67 : q.sl < 0 ∨ 10 < q.sl := by
        by_cases h6 : 0 ≤ q.sl
        · by_cases h7 : q.sl ≤ 10
          · exact absurd ⟨h1, h2, h3, h4, h5, h6, h7⟩ h
          · omega
        · omega
      clear h
      rcases h67 with h6 | h6
      · go_enter Tryz.func64, Tryz.ntmps64
        go_wp2
        all_goals
          go_ret
          exact ⟨rfl, below_alloc_ (Below.refl _ _) _⟩
      · have h6d : decide (q.sl ≤ 10) = false := by simp; omega
        go_enter Tryz.func64, Tryz.ntmps64
        go_wp2
        all_goals
          go_ret
          exact ⟨rfl, below_alloc_ (Below.refl _ _) _⟩
    · have h45 : q.often < 1 ∨ 1000 < q.often := by omega
      clear h a2
      rcases h45 with h6 | h6
      all_goals
        by_cases h7 : 0 ≤ q.sl
        all_goals
          go_enter Tryz.func64, Tryz.ntmps64
          go_wp2
          all_goals
            go_ret
            exact ⟨rfl, below_alloc_ (Below.refl _ _) _⟩
  · have h123 : q.lo < 0 ∨ (0 ≤ q.lo ∧ q.hi ≤ q.lo) ∨ (0 ≤ q.lo ∧ q.lo < q.hi ∧ 1000000 < q.hi) := by omega
    clear h a1
    by_cases h7 : 0 ≤ q.sl
    all_goals
      by_cases h8 : 1 ≤ q.often
      all_goals
        rcases h123 with h6 | ⟨h6, h9⟩ | ⟨h6, h9, h10⟩
        · go_enter Tryz.func64, Tryz.ntmps64
          go_wp2
          all_goals
            go_ret
            exact ⟨rfl, below_alloc_ (Below.refl _ _) _⟩
        · go_enter Tryz.func64, Tryz.ntmps64
          go_wp2
          all_goals
            go_ret
            exact ⟨rfl, below_alloc_ (Below.refl _ _) _⟩
        · have h6d : decide (q.hi ≤ 1000000) = false := by simp; omega
          go_enter Tryz.func64, Tryz.ntmps64
          go_wp2
          all_goals
            go_ret
            exact ⟨rfl, below_alloc_ (Below.refl _ _) _⟩
end Go.Proofs.YtfakjedolecdcaaGreatDoor
namespace Go.Proofs.YtfakjedolecdcaaGreatDoor
open Go.RowKit Go.Extern.Stop Go.Stop Go.Extern

theorem fivec {w : World} {b : Nat} {t : TypeId} {a0 a1 a2 a3 a4 : Value} (h : w.heap[b]? = some (.cells #[a0, a1, a2, a3, a4] t (0, 0))) : w.cell? ⟨b, 0, none⟩ = some a0 ∧ w.cell? ⟨b, 1, none⟩ = some a1 ∧ w.cell? ⟨b, 2, none⟩ = some a2 ∧ w.cell? ⟨b, 3, none⟩ = some a3 ∧ w.cell? ⟨b, 4, none⟩ = some a4 := by
  refine ⟨?_, ?_, ?_, ?_, ?_⟩
  all_goals simp [World.cell?, h]
set_option maxRecDepth 20000 in
set_option maxHeartbeats 2000000 in
theorem newRed_yes (q : RSet) (P R : Int) {px : Option Addr} {m pcap : Nat} {f : Nat → Int} (w : World) (h : IRow w px m f) (hn : px = none → m = 0 ∧ pcap = 0) (hm : m ≤ 1000) (hq : q.Ok) (hP : 0 ≤ P) (hP1 : P ≤ 1000000) (hR : 0 ≤ R) (hR1 : R ≤ 1000000) :
    Calls Tryz.prog 47 #[q.val, .int .i64 P, .int .i64 R, .slice px m pcap] w fun e w' => ∃ b tv, e = .returned (.tuple #[.pointer (some ⟨b, 0, none⟩), .nilIface]) ∧ RedP w' b P R q (.slice none 0 0) tv ⟨[], tapeL m f, 0, 0⟩ ∧ w.heap.size ≤ b ∧ (∀ k, tv.ownBlock = some k → w.heap.size ≤ k) ∧ Below w.heap.size w w' := by
  have HI : Hid (IRow w px m f) := h
  have HNN : Hid (px = none → m = 0 ∧ pcap = 0) := hn
  clear h hn
  rw [RSet.val_eq]
  have HRT : Hid (∀ W : World, Calls Tryz.prog 64 #[.agg #[.int .i64 q.lo, .int .i64 q.hi, .int .i64 q.often, .int .i64 q.sl, .bool q.mrk]] W fun e w' => e = .returned (.bool true) ∧ Below W.heap.size W w') := fun W => right_yes q W hq
  go_enter Tryz.func47, Tryz.ntmps47
  go_wp2_with (first | (go_at_call 27; refine (newFifo_yes P R false _ hP hP1 hR hR1).mono ?_; rintro e w1 ⟨rfl, hl1, hw1⟩; subst hw1) | (go_at_call 64; fail))
  have HB1 : Hid (Below w.heap.size w ((w.alloc (.cells #[.int .i64 q.lo, .int .i64 q.hi, .int .i64 q.often, .int .i64 q.sl, .bool q.mrk] 115)).alloc (.cells #[.slice none 0 0, .int .i64 0, .int .i64 P, .int .i64 R, .bool false] 110))) := below_alloc_ (below_alloc_ (Below.refl _ _) _) _
  refine (HRT.out _).mono ?_
  rintro e w2 ⟨rfl, hb2⟩
  have hF2 : w2.heap[w.heap.size + 1]? = some (.cells #[.slice none 0 0, .int .i64 0, .int .i64 P, .int .i64 R, .bool false] 110 (0, 0)) := by rw [hb2.block _ (by simp)]; exact new_block_ (by simp)
  have hS2 : w2.heap[w.heap.size]? = some (.cells #[.int .i64 q.lo, .int .i64 q.hi, .int .i64 q.often, .int .i64 q.sl, .bool q.mrk] 115 (0, 0)) := by rw [hb2.block _ (by simp; omega)]; exact (Below.heap_alloc _ _ _ (by simp)).trans (new_block w _)
  obtain ⟨a0, a1, a2, a3, a4⟩ := fivec hF2
  obtain ⟨b0, b1, b2, b3, b4⟩ := fivec hS2
  have hl2 := lt_of_block hF2
  have HB2 : Hid (Below w.heap.size w w2) := HB1.out.trans (hb2.mono HB1.out.size)
  have HCL : Hid (∀ W : World, Below w2.heap.size w2 W → Calls Tryz.prog 65 #[.slice px m pcap] W fun e w' => ∃ tv, e = .returned tv ∧ Ins w' tv (tapeL m f) ∧ (∀ k, tv.ownBlock = some k → W.heap.size ≤ k) ∧ Below W.heap.size W w') := by
    intro W hW
    have hwW : Below w.heap.size w W := HB2.out.trans (hW.mono HB2.out.size)
    refine cloneI W ?_ HNN.out (by omega)
    rcases HI.out with h | ⟨b, off, h1, h2, h3⟩
    · exact Or.inl h
    · exact Or.inr ⟨b, off, h1, Nat.lt_of_lt_of_le h2 hwW.size, fun i hi => by rw [World.cell?_of_block (w := w) (a := ⟨b, off + i, none⟩) (hwW.block b h2)]; exact h3 i hi⟩
  have HFS : Hid (∀ W : World, Below w2.heap.size w2 W → (W.cell? ⟨w.heap.size + 1, 0, none⟩ = some (.slice none 0 0) ∧ W.cell? ⟨w.heap.size + 1, 1, none⟩ = some (.int .i64 0) ∧ W.cell? ⟨w.heap.size + 1, 2, none⟩ = some (.int .i64 P) ∧ W.cell? ⟨w.heap.size + 1, 3, none⟩ = some (.int .i64 R) ∧ W.cell? ⟨w.heap.size + 1, 4, none⟩ = some (.bool false)) ∧ W.cell? ⟨w.heap.size, 0, none⟩ = some (.int .i64 q.lo) ∧ W.cell? ⟨w.heap.size, 1, none⟩ = some (.int .i64 q.hi) ∧ W.cell? ⟨w.heap.size, 2, none⟩ = some (.int .i64 q.often) ∧ W.cell? ⟨w.heap.size, 3, none⟩ = some (.int .i64 q.sl) ∧ W.cell? ⟨w.heap.size, 4, none⟩ = some (.bool q.mrk)) := by
    intro W hW
    exact ⟨fivec ((hW.block _ hl2).trans hF2), fivec ((hW.block _ (by omega)).trans hS2)⟩
  have HF2 : Hid (w2.heap[w.heap.size + 1]? = some (.cells #[.slice none 0 0, .int .i64 0, .int .i64 P, .int .i64 R, .bool false] 110 (0, 0))) := hF2
  clear hb2 hF2 hS2 hl1
  go_wp2
  go_region_with (go_at_call 65; refine (HCL.out _ (by repeat' (first | with_reducible exact Below.refl _ _ | with_reducible refine Below.drew ?_))).mono ?_; rintro e w3 ⟨tv, rfl, ht3, hn3, hb3⟩; obtain ⟨tx, tcap, htv, _⟩ := Seg.lies ht3; subst htv; have hb23 : Below w2.heap.size w2 w3 := (Below.drew (Below.refl _ _)).trans hb3; obtain ⟨⟨c0, c1, c2, c3, c4⟩, d0, d1, d2, d3, d4⟩ := HFS.out w3 hb23)
  all_goals
    go_wp2
    go_ret2
    have hw3 : Below w.heap.size w w3 := HB2.out.trans (hb23.mono HB2.out.size)
    refine ⟨w3.heap.size, _, rfl, ⟨⟨new_block_ rfl, Hs.nil _, by simp [Value.ownBlock]⟩, Seg.below ht3 (below_alloc_ (Below.refl _ _) _), fun e => ?_, fun k _ => by simp [Value.ownBlock]⟩, hw3.size, fun k hk => ?_, below_alloc_ hw3 _⟩
    · have := Seg.lt ht3 e; omega
    · have := hn3 k hk
      have h2 := HB2.out.size
      simp at this
      omega
end Go.Proofs.YtfakjedolecdcaaGreatDoor
namespace Go.Proofs.YtfakjedolecdcaaGreatDoor
open Go.RowKit Go.Extern.Stop Go.Stop Go.Extern

theorem newRed_room (q : RSet) (P R : Int) {tv : Value} (w : World) (h : ¬ (0 ≤ P ∧ P ≤ 1000000 ∧ 0 ≤ R ∧ R ≤ 1000000)) :
    Calls Tryz.prog 47 #[q.val, .int .i64 P, .int .i64 R, tv] w fun e w' => e = .returned (.tuple #[.pointer none, .iface 57 (.int .i64 2)]) ∧ Below w.heap.size w w' := by
  rw [RSet.val_eq]
  go_enter Tryz.func47, Tryz.ntmps47
  go_wp2_with (go_at_call 27; refine (newFifo_no P R false _ h).mono ?_; rintro e w1 ⟨rfl, hw1⟩; subst hw1)
  go_ret2
  exact ⟨rfl, below_alloc_ (Below.refl _ _) _⟩
theorem newRed_setup (q : RSet) (P R : Int) {tv : Value} (w : World) (hq : ¬ q.Ok) (hP : 0 ≤ P) (hP1 : P ≤ 1000000) (hR : 0 ≤ R) (hR1 : R ≤ 1000000) :
    Calls Tryz.prog 47 #[q.val, .int .i64 P, .int .i64 R, tv] w fun e w' => e = .returned (.tuple #[.pointer none, .iface 57 (.int .i64 2)]) ∧ Below w.heap.size w w' := by
  have HRT : Hid (∀ W : World, Calls Tryz.prog 64 #[.agg #[.int .i64 q.lo, .int .i64 q.hi, .int .i64 q.often, .int .i64 q.sl, .bool q.mrk]] W fun e w' => e = .returned (.bool false) ∧ Below W.heap.size W w') := fun W => right_no q W hq
  rw [RSet.val_eq]
  go_enter Tryz.func47, Tryz.ntmps47
  go_wp2_with (first | (go_at_call 27; refine (newFifo_yes P R false _ hP hP1 hR hR1).mono ?_; rintro e w1 ⟨rfl, hl1, hw1⟩; subst hw1) | (go_at_call 64; fail))
  refine (HRT.out _).mono ?_
  rintro e w2 ⟨rfl, hb2⟩
  go_wp2
  go_ret2
  exact ⟨rfl, (below_alloc_ (below_alloc_ (Below.refl _ _) _) _).trans (hb2.mono (by simp; omega))⟩
theorem newRed_tape (q : RSet) (P R : Int) {px : Option Addr} {m pcap : Nat} (w : World) (hm : 1000 < m) (hm1 : m ≤ 9223372036854775807) (hq : q.Ok) (hP : 0 ≤ P) (hP1 : P ≤ 1000000) (hR : 0 ≤ R) (hR1 : R ≤ 1000000) :
    Calls Tryz.prog 47 #[q.val, .int .i64 P, .int .i64 R, .slice px m pcap] w fun e w' => e = .returned (.tuple #[.pointer none, .iface 57 (.int .i64 4)]) ∧ Below w.heap.size w w' := by
  have HRT : Hid (∀ W : World, Calls Tryz.prog 64 #[.agg #[.int .i64 q.lo, .int .i64 q.hi, .int .i64 q.often, .int .i64 q.sl, .bool q.mrk]] W fun e w' => e = .returned (.bool true) ∧ Below W.heap.size W w') := fun W => right_yes q W hq
  rw [RSet.val_eq]
  go_enter Tryz.func47, Tryz.ntmps47
  go_wp2_with (first | (go_at_call 27; refine (newFifo_yes P R false _ hP hP1 hR hR1).mono ?_; rintro e w1 ⟨rfl, hl1, hw1⟩; subst hw1) | (go_at_call 64; fail))
  refine (HRT.out _).mono ?_
  rintro e w2 ⟨rfl, hb2⟩
  go_wp2
  go_ret2
  exact ⟨rfl, (below_alloc_ (below_alloc_ (Below.refl _ _) _) _).trans (hb2.mono (by simp; omega))⟩
end Go.Proofs.YtfakjedolecdcaaGreatDoor
