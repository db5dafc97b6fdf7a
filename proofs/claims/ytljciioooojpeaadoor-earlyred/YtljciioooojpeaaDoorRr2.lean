/-
  millraceref.Red: what Put does. Conditions: the queue lies in memory; numbers within bounds; few packets.
-/
import Derived.Test.YtljciioooojpeaaDoorRr1
namespace Go.Proofs.YtljciioooojpeaaDoor
open Go.RowKit Go.Extern.Stop Go.Stop Go.Extern

theorem drop_zero_get {m : Nat} {f : Nat → Int} {u : Nat} (h : u < m) : ∃ t, (tapeL m f).drop u = f u :: t := by
  refine ⟨(tapeL m f).drop (u + 1), ?_⟩
  have h1 : u < (tapeL m f).length := by rw [tapeL_len]; exact h
  rw [List.drop_eq_getElem_cons h1]
  congr 1
  have := tapeL_get (f := f) h
  rw [List.getElem?_eq_getElem h1] at this
  exact Option.some.inj this
theorem drop_none {m : Nat} {f : Nat → Int} {u : Nat} (h : ¬ u < m) : (tapeL m f).drop u = [] := by
  apply List.drop_eq_nil_of_le
  rw [tapeL_len]; omega
/-- Behind the choice: whether it is hit, and what is left but for the count. -/
structure XC (w0 w : World) (b : Nat) (P R : Int) (q : RSet) (px : Option Addr) (m pcap : Nat) (f : Nat → Int) (v : Value) (x : Hd) (s1 s2 : RdS) (u2 : Nat) (wx : World) : Prop where
  pos : XP w0 wx b P R q px m pcap f v s2 u2
  yes : (hitR q s1).1 = true → { s2 with since := 0 } = (hitR q s1).2
  no : (hitR q s1).1 = false → s2 = (hitR q s1).2
  list : s2.L = s1.L
  box : wx.heap[w.heap.size]? = some (.cells #[.int .i64 x.a, .int .i64 x.l, .int .i64 x.f, .int .i64 x.b, .int .i64 x.m, .int .i64 x.n] 96 (0, 0))
  ot : Ot (· = b) w wx
/-- What a Put of the reference leaves. -/
structure XPut (w0 w : World) (b : Nat) (P R : Int) (q : RSet) (px : Option Addr) (m pcap : Nat) (f : Nat → Int) (v : Value) (used : Nat) (s' : RdS) (lost : List Hd) (u : Value) (w' : World) (v' : Value) (used' : Nat) : Prop where
  lost : Ps w' u lost
  pos : XP w0 w' b P R q px m pcap f v' s' used'
  use : used' ≤ used + 1
  own : ∀ k, v'.ownBlock = some k → v.ownBlock = some k ∨ w.heap.size ≤ k
  new : ∀ k, u.ownBlock = some k → w.heap.size ≤ k
  ot : Ot (fun k => k = b ∨ v.ownBlock = some k) w w'
set_option maxRecDepth 20000 in
set_option maxHeartbeats 4000000 in
theorem rrput_any {w0 : World} {b : Nat} {P R : Int} {q : RSet} {px : Option Addr} {m pcap : Nat} {f : Nat → Int} {v : Value} {s : RdS} {used : Nat} (now : Int) (x : Hd) (w : World) (h : XP w0 w b P R q px m pcap f v s used) (hq : q.Ok) (hF : Fit (s.L ++ [x])) (hP : 0 ≤ P) (hR : 0 ≤ R) (hc0 : 0 ≤ s.since) (hc1 : s.since ≤ 100000) (h0 : 0 ≤ s.sum) (h1 : s.sum ≤ 1000000000000) (hub : used + 1 ≤ 100000) :
    Calls Tryd.prog 97 #[.pointer (some ⟨b, 0, none⟩), .int .i64 now, x.val] w fun e w' => ∃ u v' used', e = .returned u ∧ XPut w0 w b P R q px m pcap f v used (putR P R q s x).1 (putR P R q s x).2 u w' v' used' := by
  have H : Hid (XP w0 w b P R q px m pcap f v s used) := h
  have hb := RAt.lt h.pos
  have hV := Hd.val_eq
  obtain ⟨⟨c3, c4, c5, c6, c7, c8, c9, c10, c11, c12⟩, f10, f11, f12⟩ := h.cells
  have hsl := Fit.sum hF.pref.2
  have hfl := hF.1
  have HFP1 : Hid (Fit s.L) := hF.pref
  obtain ⟨sl, hsl'⟩ : ∃ sl, sumL s.L = sl := ⟨_, rfl⟩
  have hmb := meanR_bd q h0
  obtain ⟨mn, hm⟩ : ∃ mn, meanR q s.sum = mn := ⟨_, rfl⟩
  rw [hm] at hmb
  have hsl2 : 0 ≤ sl ∧ sl ≤ 10000000000 := by rw [hsl'] at hsl; simp at hfl; omega
  have HSM : Hid (sumR q s = { s with sum := s.sum + (sl - mn) }) := by show _ = _; rw [sumR, hsl', hm]
  have HBY : Hid (∀ W : World, XP w0 W b P R q px m pcap f v s used → Calls Tryd.prog 31 #[v] W fun e w' => e = .returned (.int .i64 sl) ∧ Below W.heap.size W w') := fun W hW => by
    have := rbytes_any W hW.pos.row HFP1.out
    rw [hsl'] at this
    exact this
  have HME : Hid (∀ W : World, XP w0 W b P R q px m pcap f v s used → Calls Tryd.prog 15 #[.pointer (some ⟨b, 0, none⟩)] W fun e w' => e = .returned (.int .i64 mn) ∧ w' = W) := fun W hW => by
    have := rmean_any W hW hq h0 (by omega)
    rw [hm] at this
    exact this
  have hwA : IntKind.i64.wrap (sl - mn) = sl - mn := by rw [IntKind.wrap_i64]; omega
  have hwB : IntKind.i64.wrap (s.sum + (sl - mn)) = s.sum + (sl - mn) := by rw [IntKind.wrap_i64]; omega
  have HX1 : Hid (XP w0 (w.alloc (.cells #[.int .i64 x.a, .int .i64 x.l, .int .i64 x.f, .int .i64 x.b, .int .i64 x.m, .int .i64 x.n] 96)) b P R q px m pcap f v s used) := h.below (below_alloc_ (Below.refl _ _) _)
  have HBX : Hid ((w.alloc (.cells #[.int .i64 x.a, .int .i64 x.l, .int .i64 x.f, .int .i64 x.b, .int .i64 x.m, .int .i64 x.n] 96)).heap[w.heap.size]? = some (.cells #[.int .i64 x.a, .int .i64 x.l, .int .i64 x.f, .int .i64 x.b, .int .i64 x.m, .int .i64 x.n] 96 (0, 0))) := new_block w _
  have HOW : Hid (Ot (· = b) w (w.alloc (.cells #[.int .i64 x.a, .int .i64 x.l, .int .i64 x.f, .int .i64 x.b, .int .i64 x.m, .int .i64 x.n] 96))) := Ot.alloc (Ot.refl _ _) _
  clear h hsl hsl' hm c3 c4 c5 c6 c7 c8 c9 c10 c11 c12 f10 f11 f12
  go_enter Tryd.func97, Tryd.ntmps97
  go_upto_region 1 with (fail)
  obtain ⟨W0, hW0⟩ : ∃ W0, w.alloc (.cells #[.int .i64 x.a, .int .i64 x.l, .int .i64 x.f, .int .i64 x.b, .int .i64 x.m, .int .i64 x.n] 96) = W0 := ⟨_, rfl⟩
  rw [hW0] at HX1 HBX HOW ⊢
  clear hW0
  obtain ⟨⟨c3, c4, c5, c6, c7, c8, c9, c10, c11, c12⟩, f10, f11, f12⟩ := HX1.out.cells
  have hbW := RAt.lt HX1.out.pos
  have HXD : Hid (XP w0 W0.drew b P R q px m pcap f v s used) := HX1.out.drewN 1
  have HXB : Hid (∀ w1, Below W0.drew.heap.size W0.drew w1 → XP w0 w1 b P R q px m pcap f v s used) := fun w1 hb1 => HXD.out.below hb1
  have HBD : Hid (Below W0.heap.size W0 W0.drew) := (Below.refl _ _).drew
  go_cut [] (fun wc => ∃ w1, wc = w1.setCell ⟨b, 10, none⟩ (.int .i64 (s.sum + (sl - mn))) ∧ Below W0.heap.size W0 w1)
  case first =>
    go_region_with (first | (go_at_call 31; (with_reducible refine (HBY.out W0.drew HXD.out).mono ?_); rintro e w1 ⟨rfl, hb1⟩; have HB1 : Hid (Below W0.heap.size W0 w1) := HBD.out.trans hb1; have HX2 : Hid (XP w0 w1 b P R q px m pcap f v s used) := HXB.out w1 hb1; obtain ⟨⟨c3', c4', c5', c6', c7', c8', c9', c10', c11', c12'⟩, f10', f11', f12'⟩ := HX2.out.cells; have hbw1 := RAt.lt HX2.out.pos) | (go_at_call 15; (with_reducible refine (HME.out W0.drew HXD.out).mono ?_); rintro e w2 ⟨rfl, hw2⟩; subst hw2) | (go_at_call 15; (with_reducible refine (HME.out w1 HX2.out).mono ?_); rintro e w2 ⟨rfl, hw2⟩; subst hw2))
    all_goals
      go_wp2
      go_meet
      case rel => exact ⟨_, rfl, HB1.out⟩
  case rest =>
    obtain ⟨w1, rfl, hb1⟩ := hcut
    have HX3 : Hid (XP w0 (w1.setCell ⟨b, 10, none⟩ (.int .i64 (s.sum + (sl - mn)))) b P R q px m pcap f v (sumR q s) used) := by
      show XP _ _ _ _ _ _ _ _ _ _ _ _ _
      rw [HSM.out]
      exact (HX1.out.below hb1).sum _
    have HBX3 : Hid ((w1.setCell ⟨b, 10, none⟩ (.int .i64 (s.sum + (sl - mn)))).heap[w.heap.size]? = some (.cells #[.int .i64 x.a, .int .i64 x.l, .int .i64 x.f, .int .i64 x.b, .int .i64 x.m, .int .i64 x.n] 96 (0, 0))) := heap_other (by omega) ((hb1.block _ (lt_of_block HBX.out)).trans HBX.out)
    have HO3 : Hid (Ot (· = b) w (w1.setCell ⟨b, 10, none⟩ (.int .i64 (s.sum + (sl - mn))))) := Ot.setCell (HOW.out.trans (Ot.of_below hb1)) (Or.inl rfl) _
    obtain ⟨W1, hW1⟩ : ∃ W1, w1.setCell ⟨b, 10, none⟩ (.int .i64 (s.sum + (sl - mn))) = W1 := ⟨_, rfl⟩
    rw [hW1] at HX3 HBX3 HO3 ⊢
    clear hW1 hb1 c3 c4 c5 c6 c7 c8 c9 c10 c11 c12 f10 f11 f12 hbW HXD HXB HBD HX1 HBX HOW HBY HME
    obtain ⟨s1, hs1⟩ : ∃ s1, sumR q s = s1 := ⟨_, rfl⟩
    have HS1 : Hid (sumR q s = s1) := hs1
    have hb0 : 0 ≤ s1.sum ∧ s1.sum ≤ 2000000000000 ∧ s1.since = s.since := by
      rw [← hs1, HSM.out]
      exact ⟨by show 0 ≤ s.sum + (sl - mn); omega, by show s.sum + (sl - mn) ≤ _; omega, rfl⟩
    have HL1 : Hid (s1.L = s.L) := by show _ = _; rw [← hs1]; rfl
    rw [hs1] at HX3
    have hsc : 0 ≤ s1.since ∧ s1.since ≤ 100000 := by omega
    obtain ⟨m1, hm1⟩ : ∃ m1, meanR q s1.sum = m1 := ⟨_, rfl⟩
    have HM1 := rmean_any W1 HX3.out hq hb0.1 (by omega)
    rw [hm1] at HM1
    obtain ⟨⟨c3, c4, c5, c6, c7, c8, c9, c10, c11, c12⟩, f10, f11, f12⟩ := HX3.out.cells
    have hbW := RAt.lt HX3.out.pos
    have l0 := hq.lo0
    have l1 := hq.lohi
    have l2 := hq.hi1
    have l3 := hq.of0
    have l4 := hq.of1
    have HSS : Hid (s1.since = s.since) := hb0.2.2
    clear hs1 hwA hwB hb0
    go_upto_if 44 with (go_at_call 15; (with_reducible refine HM1.mono ?_); rintro e w2 ⟨rfl, hw2⟩; subst hw2)
    go_cut [8, 9, 10, 11, 12] (fun hv _ _ _ _ wx => ∃ s2 u2, hv = .bool (hitR q s1).1 ∧ u2 ≤ used + 1 ∧ XC w0 w b P R q px m pcap f v x s1 s2 u2 wx)
    case first =>
      by_cases hA : m1 < q.lo
      · have hD : hitR q s1 = (false, { s1 with since := 0 }) := by unfold hitR; rw [hm1, if_pos hA]
        have HD : Hid (hitR q s1 = (false, { s1 with since := 0 })) := hD
        have hhi : decide (q.hi ≤ m1) = false := by simp; omega
        clear hD hm1
        go_wp2
        go_meet
        case rel => exact ⟨{ s1 with since := 0 }, used, (by rw [HD.out]; simp only [hhi]), by omega, HX3.out.since 0, (by rw [HD.out]; intro h; cases h), (by rw [HD.out]; intro _; rfl), rfl, heap_other (by omega) HBX3.out, Ot.setCell HO3.out (Or.inl rfl) _⟩
      · by_cases hB : q.hi ≤ m1
        · have hD : hitR q s1 = (true, { s1 with since := 0 }) := by unfold hitR; rw [hm1, if_neg hA, if_pos hB]
          have HD : Hid (hitR q s1 = (true, { s1 with since := 0 })) := hD
          clear hD hm1
          go_wp2
          go_meet
          case rel => exact ⟨s1, used, (by rw [HD.out]; first | done | rfl | simp [hB]), by omega, HX3.out, (by rw [HD.out]; intro _; rfl), (by rw [HD.out]; intro h; cases h), rfl, HBX3.out, HO3.out⟩
        · obtain ⟨o, ho⟩ : ∃ o, q.often * (m1 - q.lo) = o := ⟨_, rfl⟩
          have ho0 := mul_bd (a := q.often) (b := m1 - q.lo) (A := 1000) (B := 1000000) (by omega) l4 (by omega) (by omega)
          rw [ho] at ho0
          obtain ⟨p, hp⟩ : ∃ p, s1.since * o = p := ⟨_, rfl⟩
          have hp0 := mul_bd (a := s1.since) (b := o) (A := 100000) (B := 1000000000) hsc.1 hsc.2 ho0.1 (by omega)
          rw [hp] at hp0
          have hw0 : IntKind.i64.wrap (m1 - q.lo) = m1 - q.lo := by rw [IntKind.wrap_i64]; omega
          have hw1 : IntKind.i64.wrap (q.often * (m1 - q.lo)) = o := by rw [ho, IntKind.wrap_i64]; omega
          have hw2 : IntKind.i64.wrap (s1.since * o) = p := by rw [hp, IntKind.wrap_i64]; omega
          have hw3 : IntKind.i64.wrap (q.hi - q.lo) = q.hi - q.lo := by rw [IntKind.wrap_i64]; omega
          have hw4 : IntKind.i64.wrap (1000 * (q.hi - q.lo)) = 1000 * (q.hi - q.lo) := by rw [IntKind.wrap_i64]; omega
          obtain ⟨r, hr⟩ : ∃ r, 1000 * (q.hi - q.lo) - p = r := ⟨_, rfl⟩
          have hw5 : IntKind.i64.wrap (1000 * (q.hi - q.lo) - p) = r := by rw [IntKind.wrap_i64]; omega
          have hr1 : r ≤ 1000000000 := by omega
          have hD0 : hitR q s1 = ((decR q s1 m1).1, if (decR q s1 m1).1 then { (decR q s1 m1).2 with since := 0 } else (decR q s1 m1).2) := by unfold hitR; rw [hm1, if_neg hA, if_neg hB]
          have hBd : decide (q.hi ≤ m1) = false := by simp; omega
          by_cases hneg : r ≤ 0
          · have hD : decR q s1 m1 = (true, s1) := by unfold decR; rw [ho, hp, hr, if_pos hneg]
            rw [hD] at hD0
            have HD : Hid (hitR q s1 = (true, { s1 with since := 0 })) := hD0
            clear hD hD0 ho hp hr hm1
            go_wp2
            go_quiet (fail)
            go_wp2
            go_meet
            case rel => exact ⟨{ s1 with since := s1.since + 1 }, used, (by rw [HD.out]; first | done | rfl | simp [hneg]), by omega, (HX3.out.drewN _).since _, (by rw [HD.out]; intro _; rfl), (by rw [HD.out]; intro h; cases h), rfl, heap_other (by omega) (heap_drew HBX3.out), Ot.setCell (Ot.drewN HO3.out _) (Or.inl rfl) _⟩
          · have hD : decR q s1 m1 = (decide (drawV s1.tape * r < 1000 * o), { s1 with since := s1.since + 1, tape := s1.tape.tail }) := by unfold decR; rw [ho, hp, hr, if_neg hneg]
            rw [hD] at hD0
            have hnegd : decide (r ≤ 0) = false := decide_eq_false hneg
            have hdv := drawV_bd s1.tape
            obtain ⟨dv, hdv'⟩ : ∃ dv, drawV s1.tape = dv := ⟨_, rfl⟩
            have HDV : Hid (drawV s1.tape = dv) := hdv'
            rw [hdv'] at hdv hD0
            obtain ⟨y, hy⟩ : ∃ y, dv * r = y := ⟨_, rfl⟩
            have HYR : Hid (dv * r = y) := hy
            have hy0 := mul_bd (a := dv) (b := r) (A := 999) (B := 1000000000) hdv.1 hdv.2 (by omega) hr1
            rw [hy] at hy0 hD0
            have hw6 : IntKind.i64.wrap (dv * r) = y := by rw [hy, IntKind.wrap_i64]; omega
            have hw7 : IntKind.i64.wrap (1000 * o) = 1000 * o := by rw [IntKind.wrap_i64]; omega
            have HD : Hid (hitR q s1 = (decide (y < 1000 * o), if decide (y < 1000 * o) then { s1 with since := 0, tape := s1.tape.tail } else { s1 with since := s1.since + 1, tape := s1.tape.tail })) := hD0
            have HEND : Hid (∀ n1, XC w0 w b P R q px m pcap f v x s1 { s1 with since := s1.since + 1, tape := s1.tape.tail } (used + 1) (((w2.drewN n1).setCell ⟨b, 12, none⟩ (.int .i64 ((used : Int) + 1))).setCell ⟨b, 11, none⟩ (.int .i64 (s1.since + 1)))) := by
              intro n1
              refine ⟨((HX3.out.drewN n1).use hub).since _, ?_, ?_, rfl, heap_other (by omega) (heap_other (by omega) (heap_drew HBX3.out)), Ot.setCell (Ot.setCell (Ot.drewN HO3.out _) (Or.inl rfl) _) (Or.inl rfl) _⟩
              · rw [HD.out]; intro h; simp only at h ⊢; rw [if_pos h]
              · rw [HD.out]; intro h; simp only at h ⊢; rw [if_neg (by rw [h]; simp)]
            clear hD hD0 ho hp hr hy hdv' hm1
            by_cases hum : used < m
            · have hrow := HX3.out.irow
              rcases hrow with h' | ⟨tb, toff, rfl, htb, htc⟩
              · omega
              have k0 := htc used hum
              have he : wrap64 ((IntKind.u64.wrap (f used)).tmod 1000) = dv := by
                obtain ⟨t, ht⟩ := drop_zero_get (f := f) hum
                rw [← HDV.out, HX3.out.tape, ht]
                simp only [drawV]
                rw [IntKind.wrap_u64, Int.tmod_eq_emod_of_nonneg (by omega)]
                unfold wrap64; omega
              clear htc
              go_wp2
              go_quiet (fail)
              go_wp2
              go_quiet (fail)
              go_wp2
              go_quiet (fail)
              go_wp2
              go_meet
              case rel => exact ⟨_, used + 1, (by rw [HD.out]), Nat.le_refl _, HEND.out _⟩
            · have HY0 : Hid (y = 0) := by
                show y = 0
                rw [← HYR.out, ← HDV.out, HX3.out.tape, drop_none hum]
                exact Int.zero_mul r
              go_wp2
              go_quiet (fail)
              go_wp2
              go_quiet (fail)
              go_wp2
              go_meet
              case rel => exact ⟨_, used + 1, (by rw [HD.out, HY0.out]), Nat.le_refl _, HEND.out _⟩
    case rest =>
      obtain ⟨s2, u2, rfl, hu2, hx⟩ := hcut
      have HXC : Hid (XC w0 w b P R q px m pcap f v x s1 s2 u2 wc) := hx
      have HPR : Hid (putR P R q s x = if (hitR q s1).1 then if q.mrk then ({ (hitR q s1).2 with L := (putF P R false s.L (marked x)).2 }, (putF P R false s.L (marked x)).1) else ((hitR q s1).2, [x]) else ({ (hitR q s1).2 with L := (putF P R false s.L x).2 }, (putF P R false s.L x).1)) := by show _ = _; rw [← HS1.out]; rfl
      obtain ⟨hh, hhe⟩ : ∃ hh, hitR q s1 = hh := ⟨_, rfl⟩
      have HHE : Hid (hitR q s1 = hh) := hhe
      rw [hhe] at HPR ⊢
      obtain ⟨hit, s3⟩ := hh
      have HYS : Hid (hit = true → { s2 with since := 0 } = s3) := fun e => by have := HXC.out.yes (by rw [HHE.out]; exact e); rw [HHE.out] at this; exact this
      have HNO : Hid (hit = false → s2 = s3) := fun e => by have := HXC.out.no (by rw [HHE.out]; exact e); rw [HHE.out] at this; exact this
      clear hx hhe c3 c4 c5 c6 c7 c8 c9 c10 c11 c12 f10 f11 f12 hbW hm1
      obtain ⟨⟨d3, d4, d5, d6, d7, d8, d9, d10, d11, d12⟩, g10, g11, g12⟩ := HXC.out.pos.cells
      obtain ⟨⟨z0, z1, z2, z3, z4, z5⟩, y0, y1, y2, y3, y4, y5⟩ := six HXC.out.box
      have hbc := RAt.lt HXC.out.pos.pos
      have hwc := lt_of_block HXC.out.box
      have HVN : Hid (∀ k, v.ownBlock = some k → k ≠ w.heap.size) := fun k hk e => by have := H.out.pos.row.lt hk; omega
      have HTN : Hid (∀ k, TB px m k → k ≠ w.heap.size) := fun k hk e => by have := H.out.lt hk; omega
      have HFP : Hid (∀ (W : World) (s5 : RdS) (u5 : Nat) (y : Hd), XP w0 W b P R q px m pcap f v s5 u5 → s5.L = s.L → Fit (s.L ++ [y]) → Calls Tryd.prog 86 #[.pointer (some ⟨b, 0, none⟩), .int .i64 now, y.val] W fun e w' => ∃ u v', e = .returned u ∧ Ps w' u (putF P R false s.L y).1 ∧ XP w0 w' b P R q px m pcap f v' { s5 with L := (putF P R false s.L y).2 } u5 ∧ (∀ k, v'.ownBlock = some k → v.ownBlock = some k ∨ W.heap.size ≤ k) ∧ (∀ k, u.ownBlock = some k → W.heap.size ≤ k) ∧ Ot (fun k => k = b ∨ v.ownBlock = some k) W w') := by
        intro W s5 u5 y hr5 hL5 hF5
        have hp := hr5.pos
        rw [hL5] at hp
        refine (rfifo_put now y W hp hF5 hP hR).mono ?_
        rintro e w' ⟨u, v', rfl, hpu⟩
        exact ⟨u, v', rfl, hpu.lost, rred_after hr5 hpu, hpu.own, hpu.new, hpu.ot⟩
      cases hit with
      | true =>
        have e3 := HYS.out rfl
        have HX5 : Hid (XP w0 (wc.setCell ⟨b, 11, none⟩ (.int .i64 0)) b P R q px m pcap f v s3 u2) := by show XP _ _ _ _ _ _ _ _ _ _ _ _ _; rw [← e3]; exact HXC.out.pos.since 0
        have HEL : Hid (s3.L = s.L) := by show _ = _; rw [← e3, ← HL1.out]; exact HXC.out.list
        clear e3
        cases hmk : q.mrk with
        | false =>
          have hPR : putR P R q s x = (s3, [x]) := by rw [HPR.out, hmk]; rfl
          have HPP : Hid (putR P R q s x = (s3, [x])) := hPR
          clear hPR
          go_wp2
          go_ret
          rw [HPP.out]
          refine ⟨.slice (some ⟨wc.heap.size, 0, none⟩) 1 1, rfl, v, u2, Ps.one (new_block_ (by simp)), HX5.out.below (below_alloc_ (Below.refl _ _) _), hu2, fun k hk => Or.inl hk, fun k hk => ?_, ?_⟩
          · simp only [Value.ownBlock, Option.some.injEq] at hk
            subst hk
            exact HXC.out.ot.size
          · exact Ot.alloc (Ot.setCell (HXC.out.ot.mono (T := fun k => k = b ∨ v.ownBlock = some k) (fun k _ h => Or.inl h)) (Or.inl (Or.inl rfl)) _) _
        | true =>
          have hPR : putR P R q s x = ({ s3 with L := (putF P R false s.L (marked x)).2 }, (putF P R false s.L (marked x)).1) := by rw [HPR.out, hmk]; rfl
          have HPP : Hid (putR P R q s x = ({ s3 with L := (putF P R false s.L (marked x)).2 }, (putF P R false s.L (marked x)).1)) := hPR
          clear hPR
          have HFT : Hid (Fit (s.L ++ [marked x])) := ⟨by simpa using hF.1, fun y hy => by
            rcases List.mem_append.1 hy with h | h
            · exact hF.2 y (List.mem_append_left _ h)
            · simp at h; subst h; exact hF.2 x (by simp)⟩
          have HR3 : Hid (∀ n', XP w0 (((wc.setCell ⟨b, 11, none⟩ (.int .i64 0)).setCell ⟨w.heap.size, 4, none⟩ (.int .i64 255)).drewN n') b P R q px m pcap f v s3 u2) := fun n' => (HX5.out.kept (heap_other (b := w.heap.size) (by omega) rfl) (fun k hk => heap_other (b := w.heap.size) (HVN.out k hk) rfl) (fun k hk => heap_other (b := w.heap.size) (HTN.out k hk) rfl)).drewN n'
          have HVM : Hid ((marked x).val = .agg #[.int .i64 x.a, .int .i64 x.l, .int .i64 x.f, .int .i64 x.b, .int .i64 255, .int .i64 x.n]) := Hd.val_eq (marked x)
          go_wp2
          go_region_with (go_at_call 86; (refine (HFP.out _ s3 u2 (marked x) (HR3.out 1) HEL.out HFT.out).mono ?_); rintro e w4 ⟨u4, v4, rfl, hu4, hl4, hk4, hn4, ho4⟩)
          all_goals
            go_wp2
            go_ret
            rw [HPP.out]
            refine ⟨u4, v4, u2, rfl, hu4, hl4, hu2, fun k hk => ?_, fun k hk => ?_, ?_⟩
            · rcases hk4 k hk with h | h
              · exact Or.inl h
              · exact Or.inr (by have := HXC.out.ot.size; simp at h; omega)
            · have := hn4 k hk
              have h2 := HXC.out.ot.size
              simp at this
              omega
            · exact Ot.trans (S := fun k => k = b ∨ v.ownBlock = some k) (show Ot _ w _ from by
                have hO := HXC.out.ot.mono (T := fun k => k = b ∨ v.ownBlock = some k) (fun k _ h => Or.inl h)
                repeat' (first | with_reducible exact hO | with_reducible refine Ot.drewN ?_ _ | with_reducible refine Ot.drew ?_ | with_reducible refine Ot.setCell ?_ (by simp) _)) ho4
      | false =>
        have e3 := HNO.out rfl
        have HX5 : Hid (XP w0 wc b P R q px m pcap f v s3 u2) := by show XP _ _ _ _ _ _ _ _ _ _ _ _ _; rw [← e3]; exact HXC.out.pos
        have HEL : Hid (s3.L = s.L) := by show _ = _; rw [← e3, ← HL1.out]; exact HXC.out.list
        have hPR : putR P R q s x = ({ s3 with L := (putF P R false s.L x).2 }, (putF P R false s.L x).1) := by rw [HPR.out]; rfl
        have HPP : Hid (putR P R q s x = ({ s3 with L := (putF P R false s.L x).2 }, (putF P R false s.L x).1)) := hPR
        clear hPR e3
        have HR3 : Hid (∀ n', XP w0 (wc.drewN n') b P R q px m pcap f v s3 u2) := fun n' => HX5.out.drewN n'
        go_wp2
        go_region_with (go_at_call 86; (refine (HFP.out _ s3 u2 x (HR3.out 1) HEL.out hF).mono ?_); rintro e w4 ⟨u4, v4, rfl, hu4, hl4, hk4, hn4, ho4⟩)
        all_goals
          go_wp2
          go_ret
          rw [HPP.out]
          refine ⟨u4, v4, u2, rfl, hu4, hl4, hu2, fun k hk => ?_, fun k hk => ?_, ?_⟩
          · rcases hk4 k hk with h | h
            · exact Or.inl h
            · exact Or.inr (by have := HXC.out.ot.size; simp at h; omega)
          · have := hn4 k hk
            have h2 := HXC.out.ot.size
            simp at this
            omega
          · exact Ot.trans (S := fun k => k = b ∨ v.ownBlock = some k) (show Ot _ w _ from by
              have hO := HXC.out.ot.mono (T := fun k => k = b ∨ v.ownBlock = some k) (fun k _ h => Or.inl h)
              repeat' (first | with_reducible exact hO | with_reducible refine Ot.drewN ?_ _ | with_reducible refine Ot.drew ?_ | with_reducible refine Ot.setCell ?_ (by simp) _)) ho4
end Go.Proofs.YtljciioooojpeaaDoor
