/-
  millraceref.Hashed: what Put does. Conditions: its numbers within their bounds; few packets.
  millraceref.Hashed: what Take does. Conditions: its numbers within their bounds; few packets; a list whose turn it is has some.
-/
import Derived.Test.YtefflbibacmboaaDoorXy
namespace Go.Proofs.YtefflbibacmboaaDoor
open Go.RowKit Go.Extern.Stop Go.Stop Go.Extern

/-- What holds of numbers and packets. -/
structure RhB (p : HaC) (L : List Hd) : Prop where
  m0 : 1 ≤ p.many
  m1 : p.many ≤ 64
  s0 : 0 ≤ p.salt
  s1 : p.salt ≤ 1000000
  len : L.length ≤ 100000
  flow : ∀ y ∈ L, 0 ≤ y.f ∧ y.f ≤ 1000000
theorem RhB.of {p : HaC} {L : List Hd} (h : RhB p L) {b : Nat} {v tv : Value} {tn : List Int} {w : World} (hp : RhP w b p v tv ⟨L, tn⟩) (k : Int) :
    Calls Tryd.prog 131 #[.pointer (some ⟨b, 0, none⟩), .int .i64 k] w fun e w' => ∃ ux cap, e = .returned (.slice ux (ofL p L k).length cap) ∧ OwP w.heap.size w (.slice ux (ofL p L k).length cap) (ofL p L k) w' := by
  refine (rof_any k w hp h.m0 h.m1 h.s0 h.s1 (by have := h.len; show L.length ≤ _; omega) h.flow).mono ?_
  rintro e w' ⟨u, rfl, ho⟩
  obtain ⟨ux, cap, hu, _⟩ := Ps.shape ho.row
  exact ⟨ux, cap, by rw [hu], by rw [← hu]; exact ho⟩
def tn1X (p : HaC) (r : RhS) (x : Hd) : List Int := if (ofL p r.L (whereN p x.f)).isEmpty then r.tn ++ [whereN p x.f] else r.tn
set_option maxRecDepth 20000 in
set_option maxHeartbeats 4000000 in
theorem rhput_any {b : Nat} {p : HaC} {v tv : Value} {r : RhS} (now : Int) (x : Hd) (w : World) (h : RhP w b p v tv r) (hB : RhB p (r.L ++ [x])) (htl : r.tn.length ≤ 100000) :
    Calls Tryd.prog 128 #[.pointer (some ⟨b, 0, none⟩), .int .i64 now, x.val] w fun e w' => ∃ u v' tv', e = .returned u ∧ Ps w' u (putX p r x).2 ∧ (∀ k, u.ownBlock = some k → w.heap.size ≤ k) ∧ RhO w b p v tv (putX p r x).1 w' v' tv' := by
  have H : Hid (RhP w b p v tv r) := h
  have HRB : Hid (RhB p (r.L ++ [x])) := hB
  have hB0 : RhB p r.L := ⟨hB.m0, hB.m1, hB.s0, hB.s1, by have := hB.len; simp at this; omega, fun y hy => hB.flow y (by simp [hy])⟩
  have HRB0 : Hid (RhB p r.L) := hB0
  have hxf := hB.flow x (by simp)
  have hlen : r.L.length + 1 ≤ 100000 := by have := hB.len; simpa using this
  have hb := h.lt
  have HM0 : Hid (RhM w b p v tv w.heap.size x r (w.alloc (.cells #[.int .i64 x.a, .int .i64 x.l, .int .i64 x.f, .int .i64 x.b, .int .i64 x.m, .int .i64 x.n] 99)) v tv) := RhM.al h x
  have HWH : Hid (∀ W : World, RhP W b p v tv r → Calls Tryd.prog 23 #[.pointer (some ⟨b, 0, none⟩), .int .i64 x.f] W fun e w' => e = .returned (.int .i64 (whereN p x.f)) ∧ ∃ n, w' = W.drewN n) := fun W hW => rwhere_any x.f W hW hB.m0 hB.m1 hB.s0 hB.s1 hxf.1 hxf.2
  have HWN : Hid (∃ K : Int, whereN p x.f = K) := ⟨_, rfl⟩
  obtain ⟨i0, hi, hz0, hz1, hz2⟩ := info_parts infoPack
  obtain ⟨j0, gi, gz0, gz1, gz2⟩ := info_parts infoIntT
  rw [Hd.val_eq x]
  clear h hB hB0
  go_enter Tryd.func128, Tryd.ntmps128
  go_wp2_with (go_at_call 23; fail)
  refine (HWH.out _ HM0.out.o.pos).mono ?_
  rintro e w1 ⟨rfl, n1, hw1⟩
  have HM1 : Hid (RhM w b p v tv w.heap.size x r w1 v tv) := by show RhM _ _ _ _ _ _ _ _ _ _ _; rw [hw1]; exact HM0.out.below (below_dr n1)
  clear hw1 HM0 HWH
  have HOF := HRB0.out.of (tn := r.tn) HM1.out.o.pos (whereN p x.f)
  have HTN : Hid (tn1X p r x = if (ofL p r.L (whereN p x.f)).isEmpty then r.tn ++ [whereN p x.f] else r.tn) := rfl
  have HPX : Hid (putX p r x = if ((r.L ++ [x]).length : Int) ≤ p.room then (⟨r.L ++ [x], tn1X p r x⟩, []) else (⟨rmN (r.L ++ [x]) (lsOr (ofL p (r.L ++ [x]) (longX p (r.L ++ [x]) p.many.toNat : Nat))).n, if (ofL p (r.L ++ [x]) (longX p (r.L ++ [x]) p.many.toNat : Nat)).length = 1 then (tn1X p r x).filter (fun i => decide (i ≠ (longX p (r.L ++ [x]) p.many.toNat : Nat))) else tn1X p r x⟩, [lsOr (ofL p (r.L ++ [x]) (longX p (r.L ++ [x]) p.many.toNat : Nat))])) := rfl
  have HTL : Hid ((tn1X p r x).length ≤ 100001) := by
    show _ ≤ _
    unfold tn1X
    split
    · simp; omega
    · omega
  obtain ⟨K, hK⟩ := HWN.out
  rw [hK] at HOF HTN ⊢
  clear hK
  go_wp2_with (go_at_call 131; fail)
  refine HOF.mono ?_
  rintro e w2 ⟨ux2, cap2, rfl, ho2⟩
  have HM2 : Hid (RhM w b p v tv w.heap.size x r w2 v tv) := HM1.out.below ho2.bel
  clear ho2 HOF HM1
  obtain ⟨⟨a0, a1, a2, a3, a4⟩, g3, g4⟩ := HM2.out.o.pos.cells
  have hb2 := HM2.out.o.pos.lt
  go_upto_if 24 with (fail)
  go_cut [] (fun wx => ∃ tv1, RhM w b p v tv w.heap.size x ⟨r.L, tn1X p r x⟩ wx v tv1)
  case first =>
    by_cases h0 : (ofL p r.L K).length = 0
    · have HT1 : Hid (tn1X p r x = r.tn ++ [K]) := by show _ = _; rw [HTN.out, if_pos (by rw [List.isEmpty_iff]; exact List.eq_nil_of_length_eq_zero h0)]
      rw [h0]
      have HRW : Hid (Ins w2 tv r.tn) := HM2.out.o.pos.trow
      clear h0
      go_wp2_with (at_builtin; refine wpList_append_seg _ rfl (.tmp 29) (.tmp 31) 24 rfl 3 j0 _ 1 8 Tryd.underlying24 gi gz0 gz1 gz2 rfl (by decide) tv r.tn.length (r.tn.map (Value.int .i64)) rfl (Seg.alloc HRW.out _) ⟨w2.heap.size, 0, none⟩ 1 1 [.int .i64 K] rfl rfl (news_of (new_block_ rfl)) (by simp [Value.oneCell']) (by decide) (by unfold maxLen; omega) (by omega) _ rfl ?_; intro g off cp w8 hs8 hg8 ha8 hl8; have hblk8 := HM2.out.o.pos.mid (below_alloc_ (Below.refl _ _) _) hg8 HM2.out.o.pos.tne; obtain ⟨⟨q0, q1, q2, q3, q4⟩, r3, r4⟩ := fives hblk8; have hb8 := lt_of_block hblk8)
      go_meet
      case rel =>
        rw [HT1.out]
        exact ⟨_, HM2.out.step (HM2.out.o.pos.pushT (below_alloc_ (Below.refl _ _) _) hg8 (by unfold Ins; simpa using hs8) ha8)⟩
    · have HT1 : Hid (tn1X p r x = r.tn) := by show _ = _; rw [HTN.out, if_neg (by rw [List.isEmpty_iff]; intro e; exact h0 (by rw [e]; rfl))]
      obtain ⟨l0, hl0⟩ : ∃ l0, (ofL p r.L K).length = l0 := ⟨_, rfl⟩
      rw [hl0] at h0 ⊢
      have o1 : ((l0 : Int) == 0) = false := by simp; omega
      clear hl0
      go_wp2
      go_meet
      case rel =>
        rw [HT1.out]
        exact ⟨_, HM2.out⟩
  case rest =>
    obtain ⟨tv1, hm⟩ := hcut
    have HM3 : Hid (RhM w b p v tv w.heap.size x ⟨r.L, tn1X p r x⟩ wc v tv1) := hm
    clear hm a0 a1 a2 a3 a4 g3 g4 hb2 HM2
    obtain ⟨⟨a0, a1, a2, a3, a4⟩, g3, g4⟩ := HM3.out.o.pos.cells
    have hb3 := HM3.out.o.pos.lt
    obtain ⟨⟨x0, x1, x2, x3, x4, x5⟩, _⟩ := six HM3.out.box
    have hB3 : w.heap.size < wc.heap.size := lt_of_block HM3.out.box
    obtain ⟨va, vcap, hv, _⟩ := Ps.shape HM3.out.o.pos.row
    have HV : Hid (v = .slice va r.L.length vcap) := hv
    have HROW : Hid (Seg wc 99 6 (.slice va r.L.length vcap) r.L.length (flt Hd.cs r.L)) := by
      have h1 := HM3.out.o.pos.row
      unfold Ps at h1
      rw [hv] at h1
      exact h1
    rw [hv] at a3
    clear hv
    go_upto_region 4 with (fail)
    go_cut [] (fun wx => ∃ v1, RhM w b p v tv w.heap.size x ⟨r.L ++ [x], tn1X p r x⟩ wx v1 tv1)
    case first =>
      go_region_law (refine step_append_seg _ (by rfl) (.tmp 39) (.tmp 41) 36 (by rfl) 99 i0 _ 6 48 Tryd.underlying36 hi hz0 hz1 hz2 rfl (by decide) _ _ _ (by rfl) (HROW.out.below (by repeat' (first | with_reducible exact Below.refl _ _ | with_reducible refine Below.drew ?_ | with_reducible refine below_alloc_ ?_ _))) ⟨wc.heap.size, 0, none⟩ 1 1 x.cs (by rfl) rfl (news_of (new_block_ (by simp))) x.one (by decide) (by unfold maxLen; omega) (by omega) _ rfl ?_; intro g off cp w4 hs4 hg4 ha4 hl4; have hg5 := hg4; rw [← HV.out] at hg5 ha4; have hbx := (by repeat' (first | with_reducible exact Below.refl _ _ | with_reducible refine Below.drew ?_ | with_reducible refine below_alloc_ ?_ _) : Below wc.heap.size wc (World.alloc (World.drew wc) (.cells x.cs.toArray 99))); have hblk4 := HM3.out.o.pos.mid hbx hg5 HM3.out.o.pos.ne; obtain ⟨⟨q0, q1, q2, q3, q4⟩, r3, r4⟩ := fives hblk4; have hb4 := lt_of_block hblk4)
      all_goals
        go_wp2
        go_meet
        case rel => exact ⟨_, HM3.out.step (HM3.out.o.pos.pushL hbx hg5 (Ps.snoc hs4 rfl) ha4)⟩
    case rest =>
      obtain ⟨v4, hm⟩ := hcut
      have HM4 : Hid (RhM w b p v tv w.heap.size x ⟨r.L ++ [x], tn1X p r x⟩ wc v4 tv1) := hm
      clear hm a0 a1 a2 a3 a4 g3 g4 hb3 x0 x1 x2 x3 x4 x5 hB3 HM3 HROW HV
      obtain ⟨⟨a0, a1, a2, a3, a4⟩, g3, g4⟩ := HM4.out.o.pos.cells
      have hb4 := HM4.out.o.pos.lt
      obtain ⟨va, vcap, hv, _⟩ := Ps.shape HM4.out.o.pos.row
      have HLL : Hid ((r.L ++ [x]).length = r.L.length + 1) := by show _ = _; simp
      have HXI : Hid (x ∈ r.L ++ [x]) := by show _ ∈ _; simp
      obtain ⟨L1, hL1⟩ : ∃ L1, r.L ++ [x] = L1 := ⟨_, rfl⟩
      rw [hL1] at HM4 HRB HPX hv HLL HXI
      obtain ⟨tn1, htn1⟩ : ∃ tn1, tn1X p r x = tn1 := ⟨_, rfl⟩
      rw [htn1] at HM4 HPX HTL
      have hn1 : L1.length ≤ 100000 := by rw [HLL.out]; exact hlen
      rw [show ({ L := L1, tn := tn1 } : RhS).L.length = L1.length from rfl] at hv
      obtain ⟨n1', hn1'⟩ : ∃ n1', L1.length = n1' := ⟨_, rfl⟩
      have HN1 : Hid (L1.length = n1') := hn1'
      rw [hn1'] at hv hn1 HPX
      rw [hv] at a3
      clear hL1 htn1 hv hn1' HLL HTN
      by_cases hfit : (n1' : Int) ≤ p.room
      · have HP2 : Hid (putX p r x = (⟨L1, tn1⟩, [])) := by show _ = _; rw [HPX.out, if_pos hfit]
        have o1 : decide ((n1' : Int) ≤ p.room) = true := decide_eq_true hfit
        clear hfit HPX
        go_wp2
        go_quiet (fail)
        go_wp2
        go_ret
        rw [HP2.out]
        exact ⟨_, _, _, rfl, Ps.nil _, fun k hk => by simp [Value.ownBlock] at hk, (HM4.out.below (below_dr _)).o⟩
      · have o1 : decide ((n1' : Int) ≤ p.room) = false := decide_eq_false hfit
        have HP2 : Hid (putX p r x = (⟨rmN L1 (lsOr (ofL p L1 (longX p L1 p.many.toNat : Nat))).n, if (ofL p L1 (longX p L1 p.many.toNat : Nat)).length = 1 then tn1.filter (fun i => decide (i ≠ (longX p L1 p.many.toNat : Nat))) else tn1⟩, [lsOr (ofL p L1 (longX p L1 p.many.toNat : Nat))])) := by show _ = _; rw [HPX.out, if_neg hfit]
        obtain ⟨mm, hmm⟩ : ∃ mm : Nat, p.many = (mm : Int) := ⟨p.many.toNat, by have := HRB.out.m0; omega⟩
        have hmm1 : 1 ≤ mm ∧ mm ≤ 64 := by have := HRB.out.m0; have := HRB.out.m1; omega
        have hmt : p.many.toNat = mm := by omega
        rw [hmt] at HP2
        have HA0 : Hid (p.many = (mm : Int)) := hmm
        rw [hmm] at a0
        clear hfit HPX hmm hmt
        go_wp2
        go_quiet (fail)
        go_wp2
        go_loopw [8, 59] (fun mv iv wr => ∃ i : Nat, i ≤ mm ∧ iv = .int .i64 i ∧ mv = .int .i64 (longX p L1 i : Nat) ∧ RhM w b p v tv w.heap.size x ⟨L1, tn1⟩ wr v4 tv1) (fun _ iv _ => mm - (intOf iv).toNat)
        case atStart => exact ⟨0, Nat.zero_le _, rfl, rfl, HM4.out.below (below_dr _)⟩
        case round =>
          obtain ⟨i, him, rfl, rfl, hr⟩ := hrel
          have HR : Hid (RhM w b p v tv w.heap.size x ⟨L1, tn1⟩ wr v4 tv1) := hr
          clear hr HM4
          by_cases hlt : i < mm
          · have HLX : Hid (longX p L1 (i + 1) = if (ofL p L1 (longX p L1 i : Nat)).length < (ofL p L1 (i : Int)).length then i else longX p L1 i) := rfl
            have HOF1 := HRB.out.of HR.out.o.pos (i : Int)
            have hbr := HR.out.o.pos.lt
            go_wp2_with (go_at_call 131; fail)
            refine HOF1.mono ?_
            rintro e w5 ⟨ux5, cap5, rfl, ho5⟩
            have HR5 : Hid (RhM w b p v tv w.heap.size x ⟨L1, tn1⟩ w5 v4 tv1) := HR.out.below ho5.bel
            clear ho5 HOF1 HR
            have HOF2 := HRB.out.of HR5.out.o.pos (longX p L1 i : Nat)
            go_wp2_with (go_at_call 131; fail)
            refine HOF2.mono ?_
            rintro e w6 ⟨ux6, cap6, rfl, ho6⟩
            have HR6 : Hid (RhM w b p v tv w.heap.size x ⟨L1, tn1⟩ w6 v4 tv1) := HR5.out.below ho6.bel
            clear ho6 HOF2 HR5
            generalize (ofL p L1 (i : Int)).length = aa at *
            generalize (ofL p L1 (longX p L1 i : Nat)).length = cc at *
            generalize longX p L1 i = lx at *
            by_cases hac : cc < aa
            · have o3 : decide ((cc : Int) < (aa : Int)) = true := by simp; omega
              have o2 : decide (cc < aa) = true := decide_eq_true hac
              rw [if_pos hac] at HLX
              clear hac
              go_wp2
              go_roundw
              case rel => exact ⟨i + 1, by omega, by go_num, by rw [HLX.out], HR6.out⟩
              case measure => simp [intOf]; omega
            · have o3 : decide ((cc : Int) < (aa : Int)) = false := by simp; omega
              have o2 : decide (cc < aa) = false := decide_eq_false hac
              rw [if_neg hac] at HLX
              clear hac
              go_wp2
              go_roundw
              case rel => exact ⟨i + 1, by omega, by go_num, by rw [HLX.out], HR6.out⟩
              case measure => simp [intOf]; omega
          · obtain rfl : i = mm := by omega
            have hMne := long_ne HRB.out.m0 HA0.out HXI.out
            have HOF3 := HRB.out.of HR.out.o.pos (longX p L1 i : Nat)
            generalize longX p L1 i = K2 at *
            obtain ⟨M, hM⟩ : ∃ M, ofL p L1 (K2 : Int) = M := ⟨_, rfl⟩
            rw [hM] at hMne HOF3 HP2
            obtain ⟨lm, hlm⟩ : ∃ lm, M.length = lm + 1 := ⟨M.length - 1, by have := List.length_pos_iff.2 hMne; omega⟩
            have HLM : Hid (M.length = lm + 1) := hlm
            have hlb : lm + 1 ≤ 100000 := by rw [← hlm, ← hM]; exact Nat.le_trans (ofL_sub _ _ _).length_le HRB.out.len
            have hy := last_at hlm
            obtain ⟨y, hyy⟩ : ∃ y, lsOr M = y := ⟨_, rfl⟩
            rw [hyy] at hy HP2
            rw [hlm] at HOF3
            have hbr := HR.out.o.pos.lt
            clear hM hMne hyy hlm hlt him
            go_wp2_with (go_at_call 131; fail)
            refine HOF3.mono ?_
            rintro e w7 ⟨ux7, cap7, rfl, ho7⟩
            have HR7 : Hid (RhM w b p v tv w.heap.size x ⟨L1, tn1⟩ w7 v4 tv1) := HR.out.below ho7.bel
            obtain ⟨b1, off1, cap1, hx1, _⟩ := Seg.some ho7.row (by rw [HLM.out]; omega)
            have hx1' : ux7 = some ⟨b1, off1, none⟩ := by simp at hx1; exact hx1.1
            subst hx1'
            have hb17 : b1 < w7.heap.size := Seg.lt ho7.row rfl
            obtain ⟨p0, p1, p2, p3, p4, p5⟩ := Ps.cells ho7.row hy
            have hb7 := HR7.out.o.pos.lt
            have HY0 : Hid (RhM w7 b p v4 tv1 w7.heap.size y ⟨L1, tn1⟩ (w7.alloc (.cells #[.int .i64 y.a, .int .i64 y.l, .int .i64 y.f, .int .i64 y.b, .int .i64 y.m, .int .i64 y.n] 99)) v4 tv1) := RhM.al HR7.out.o.pos y
            have HOU := rout_any y _ HY0.out.o.pos (by have := HRB.out.len; show L1.length ≤ _; omega)
            rw [Hd.val_eq y] at HOU
            clear ho7 HOF3 HR hx1 hy
            go_wp2_with (go_at_call 132; fail)
            refine HOU.mono ?_
            rintro e w9 ⟨rfl, v9, hp9, hn9, ho9⟩
            have HY9 : Hid (RhM w7 b p v4 tv1 w7.heap.size y ⟨rmN L1 y.n, tn1⟩ w9 v9 tv1) := HY0.out.step (RhO.of_out hp9 hn9 ho9)
            clear hp9 hn9 ho9 HOU HY0 p0 p1 p2 p3 p4 p5
            obtain ⟨⟨a0', a1', a2', a3', a4'⟩, g3', g4'⟩ := HY9.out.o.pos.cells
            have hb9 := HY9.out.o.pos.lt
            obtain ⟨tx, tcap, htx⟩ := HY9.out.o.pos.trow.slice
            have HTX : Hid (tv1 = .slice tx tn1.length tcap) := htx
            rw [htx] at a4'
            obtain ⟨tl, htl2⟩ : ∃ tl, tn1.length = tl := ⟨_, rfl⟩
            have HTLN : Hid (tn1.length = tl) := htl2
            have htl1 : tl ≤ 100001 := by rw [← htl2]; exact HTL.out
            rw [htl2] at a4'
            clear htx htl2
            go_upto_if 87 with (fail)
            go_cut [] (fun wx => ∃ tv9, RhM w7 b p v4 tv1 w7.heap.size y ⟨rmN L1 y.n, if lm + 1 = 1 then tn1.filter (fun i => decide (i ≠ (K2 : Int))) else tn1⟩ wx v9 tv9)
            case first =>
              by_cases h0 : lm = 0
              · subst h0
                go_wp2
                go_loopw [12, 93] (fun ov iv wl => ∃ j : Nat, j ≤ tl ∧ iv = .int .i64 j ∧ OwI w9.heap.size w9 ov ((tn1.take j).filter (fun i => decide (i ≠ (K2 : Int)))) wl) (fun _ iv _ => tl - (intOf iv).toNat)
                case atStart => exact ⟨0, Nat.zero_le _, rfl, Ins.nil _, fun k hk => by simp [Value.ownBlock] at hk, Below.refl _ _⟩
                case round =>
                  obtain ⟨j, hj, rfl, ho⟩ := hrel
                  have HO : Hid (OwI w9.heap.size w9 u12 ((tn1.take j).filter (fun i => decide (i ≠ (K2 : Int)))) wr) := ho
                  have hsw := ho.bel.size
                  have hfl : ((tn1.take j).filter (fun i => decide (i ≠ (K2 : Int)))).length ≤ j := Nat.le_trans List.filter_sublist.length_le (List.length_take_le _ _)
                  clear ho
                  by_cases hlt : j < tl
                  · obtain ⟨t, ht⟩ : ∃ t, tn1[j]? = some t := ⟨_, List.getElem?_eq_getElem (by rw [HTLN.out]; exact hlt)⟩
                    have HSU : Hid ((tn1.take (j + 1)).filter (fun i => decide (i ≠ (K2 : Int))) = if t ≠ (K2 : Int) then (tn1.take j).filter (fun i => decide (i ≠ (K2 : Int))) ++ [t] else (tn1.take j).filter (fun i => decide (i ≠ (K2 : Int)))) := filt_succ ht
                    obtain ⟨tb, tof, tc, e1, htb, hcc, _⟩ := Ins.at (Seg.below HY9.out.o.pos.trow HO.out.bel) ht
                    have e2 := HTX.out.symm.trans e1
                    simp only [Value.slice.injEq, true_and] at e2
                    obtain ⟨e3, e4⟩ := e2
                    subst e3 e4
                    obtain ⟨X, hX⟩ : ∃ X, (tn1.take j).filter (fun i => decide (i ≠ (K2 : Int))) = X := ⟨_, rfl⟩
                    rw [hX] at HSU HO hfl
                    clear hX ht e1
                    by_cases hk : t = (K2 : Int)
                    · have o4 : (t == (K2 : Int)) = true := by simpa using hk
                      have o5 : (t != (K2 : Int)) = false := by simpa using hk
                      have HS2 : Hid ((tn1.take (j + 1)).filter (fun i => decide (i ≠ (K2 : Int))) = X) := by show _ = _; rw [HSU.out, if_neg (by simpa using hk)]
                      clear hk
                      go_wp2
                      go_roundw
                      case rel => exact ⟨j + 1, by omega, by go_num, by rw [HS2.out]; exact HO.out⟩
                      case measure => simp [intOf]; omega
                    · have o4 : (t == (K2 : Int)) = false := by simpa using hk
                      have o5 : (t != (K2 : Int)) = true := by simpa using hk
                      have HS2 : Hid ((tn1.take (j + 1)).filter (fun i => decide (i ≠ (K2 : Int))) = X ++ [t]) := by show _ = _; rw [HSU.out, if_pos hk]
                      clear hk
                      go_wp2_with (at_builtin; refine wpList_append_seg _ rfl (.tmp 100) (.tmp 102) 24 rfl 3 j0 _ 1 8 Tryd.underlying24 gi gz0 gz1 gz2 rfl (by decide) u12 X.length (X.map (Value.int .i64)) rfl (Seg.alloc HO.out.row _) ⟨wr.heap.size, 0, none⟩ 1 1 [.int .i64 t] rfl rfl (news_of (new_block_ rfl)) (by simp [Value.oneCell']) (by decide) (by unfold maxLen; omega) (by omega) _ rfl ?_; intro g off2 cap2 w10 hs8 hg8 ha8 hl8)
                      have HO8 : Hid (OwI w9.heap.size w9 (.slice (some ⟨g, off2, none⟩) (X.length + 1) cap2) (X ++ [t]) w10) := HO.out.app (by omega) hs8 hg8 ha8
                      clear hs8 hg8 ha8 hl8
                      go_roundw
                      case rel =>
                        first | exact ⟨j + 1, by omega, by go_num, by rw [HS2.out]; exact HO8.out⟩ | (refine ⟨_, _, _, _, _, _, _, _, _, _, _, _, _, _, ?_, rfl⟩; exact ⟨j + 1, by omega, by go_num, by rw [HS2.out]; exact HO8.out⟩)
                      case measure => simp [intOf]; omega
                  · obtain rfl : j = tl := by omega
                    have HE : Hid ((tn1.take j).filter (fun i => decide (i ≠ (K2 : Int))) = tn1.filter (fun i => decide (i ≠ (K2 : Int)))) := by show _ = _; rw [List.take_of_length_le (by rw [HTLN.out]; exact Nat.le_refl _)]
                    obtain ⟨⟨c0, c1, c2, c3, c4⟩, f3, f4⟩ := (HY9.out.o.pos.below HO.out.bel).cells
                    have hbw := (HY9.out.o.pos.below HO.out.bel).lt
                    have HNT : Hid (RhM w7 b p v4 tv1 w7.heap.size y ⟨rmN L1 y.n, tn1.filter (fun i => decide (i ≠ (K2 : Int)))⟩ (wr.setCell ⟨b, 4, none⟩ u12) v9 u12) := HY9.out.step (HY9.out.o.pos.newT HO.out.bel (by rw [← HE.out]; exact HO.out.row) HO.out.new)
                    obtain ⟨ox, ol, ocap, hox⟩ : ∃ ox ol ocap, u12 = .slice ox ol ocap := by obtain ⟨a, c, h⟩ := HO.out.row.slice; exact ⟨a, _, c, h⟩
                    subst hox
                    clear HO
                    go_wp2
                    go_meet
                    case rel => rw [if_pos trivial]; exact ⟨_, HNT.out⟩
              · have o4 : ((lm : Int) + 1 == 1) = false := by simp; omega
                have hne : ¬ lm + 1 = 1 := by omega
                go_wp2
                go_meet
                case rel => rw [if_neg hne]; exact ⟨_, HY9.out⟩
            case rest =>
              obtain ⟨tv9, hm9⟩ := hcut
              have HYZ : Hid (RhM w7 b p v4 tv1 w7.heap.size y ⟨rmN L1 y.n, if lm + 1 = 1 then tn1.filter (fun i => decide (i ≠ (K2 : Int))) else tn1⟩ wc v9 tv9) := hm9
              obtain ⟨⟨x0, x1, x2, x3, x4, x5⟩, _⟩ := six hm9.box
              have hBc : w7.heap.size < wc.heap.size := lt_of_block hm9.box
              clear hm9
              go_wp2
              go_ret
              rw [HP2.out, HLM.out]
              refine ⟨_, _, _, rfl, Ps.one (x := y) (new_block_ rfl), fun k hk => ?_, (HR7.out.o.trans HYZ.out.o).below (below_alloc_ (Below.refl _ _) _)⟩
              have h1 : some wc.heap.size = some k := hk
              have h2 := Option.some.inj h1
              have := HR7.out.o.ot.size
              omega
end Go.Proofs.YtefflbibacmboaaDoor
namespace Go.Proofs.YtefflbibacmboaaDoor
open Go.RowKit Go.Extern.Stop Go.Stop Go.Extern

/-- Behind the head nothing of it. -/
theorem Ins.tailc {w : World} {b off cap n : Nat} {x : Int} {L : List Int} (h : Ins w (.slice (some ⟨b, off, none⟩) n cap) (x :: L)) : ∀ j u, (L.map (Value.int .i64))[j]? = some u → w.cell? ⟨b, off + 1 + j, none⟩ = some u := by
  intro j u hj
  rcases h.form with ⟨h1, _, _⟩ | ⟨b', off', cap', h1, _, _, _, hc⟩
  · simp at h1
  · simp only [Value.slice.injEq, Option.some.injEq, Addr.mk.injEq, and_true] at h1
    obtain ⟨⟨rfl, rfl⟩, _⟩ := h1
    have h2 := hc (1 + j) u (by rw [Nat.add_comm]; simpa using hj)
    rwa [← Nat.add_assoc] at h2
theorem ints_ones (xs : List Int) : ∀ u ∈ xs.map (Value.int .i64), u.oneCell' = true := by
  intro u hu
  obtain ⟨x, _, rfl⟩ := List.mem_map.1 hu
  rfl
theorem RhP.newT' {w1 w' : World} {b : Nat} {p : HaC} {v tv tv' : Value} {r : RhS} {tn' : List Int} (h : RhP w1 b p v tv r) (hblk : w'.heap[b]? = some (.cells #[.int .i64 p.many, .int .i64 p.salt, .int .i64 p.room, v, tv'] 75 (0, 0))) (ho : Ot (· = b) w1 w') (hs : Ins w' tv' tn') (hn : ∀ k, tv'.ownBlock = some k → w1.heap.size ≤ k) : RhO w1 b p v tv ⟨r.L, tn'⟩ w' v tv' := by
  have hb := h.lt
  refine ⟨⟨hblk, Seg.oth h.row ho (fun k hk e => h.ne (by rw [hk, e])), hs, h.ne, fun e => by have := hn _ e; omega, fun k hk e => by have := hn _ e; have := Seg.lt h.row hk; omega⟩, fun k hk => ?_, ho.mono (fun k _ e => Or.inl e)⟩
  rcases hk with rfl | hk | hk
  · exact Or.inl (Or.inl rfl)
  · exact Or.inl (Or.inr (Or.inl hk))
  · exact Or.inr (hn k hk)
/-- The result is written. -/
theorem RhM.result {w w' : World} {b : Nat} {p : HaC} {v tv v' tv' : Value} {z : Hd} {r' : RhS} (h : RhM w b p v tv w.heap.size z r' w' v' tv') (a0 a1 a2 a3 a4 a5 : Value) : RhO w b p v tv r' ((((((w'.setCell ⟨w.heap.size, 0, none⟩ a0).setCell ⟨w.heap.size, 1, none⟩ a1).setCell ⟨w.heap.size, 2, none⟩ a2).setCell ⟨w.heap.size, 3, none⟩ a3).setCell ⟨w.heap.size, 4, none⟩ a4).setCell ⟨w.heap.size, 5, none⟩ a5) v' tv' := by
  refine ⟨h.o.pos.kept (fun k hk => ?_), h.o.own, ?_⟩
  · have e : k ≠ w.heap.size := fun e => h.nb (e ▸ hk)
    rw [Below.heap_setCell _ _ _ _ e, Below.heap_setCell _ _ _ _ e, Below.heap_setCell _ _ _ _ e, Below.heap_setCell _ _ _ _ e, Below.heap_setCell _ _ _ _ e, Below.heap_setCell _ _ _ _ e]
  · repeat' (first | with_reducible exact h.o.ot | with_reducible refine Ot.setCell ?_ (Or.inr (Nat.le_refl _)) _)
theorem RhM.start {w w' : World} {b : Nat} {p : HaC} {v tv tv' : Value} {r : RhS} {r' : RhS} (h : RhP w b p v tv r) (hO : RhO w b p v tv r' w' v tv') (hz : BxP w' w.heap.size hd0) (hn : ∀ k, tv'.ownBlock = some k → w.heap.size < k) : RhM w b p v tv w.heap.size hd0 r' w' v tv' :=
  ⟨hO, hz, fun hk => by
    rcases hk with h1 | h1 | h1
    · have := h.lt; omega
    · have := Seg.lt h.row h1; omega
    · have := hn _ h1; omega⟩
theorem iseg_empty {w : World} {b : Nat} (h : w.heap[b]? = some (.cells #[] 3 (0, 0))) : Ins w (.slice (some ⟨b, 0, none⟩) 0 0) [] := ⟨rfl, Or.inr ⟨b, 0, 0, #[], rfl, h, Nat.le_refl _, Nat.zero_le _, by simp, fun j u hj => by simp at hj⟩⟩
set_option maxRecDepth 20000 in
set_option maxHeartbeats 4000000 in
theorem rhtake_any {b : Nat} {p : HaC} {v tv : Value} {r : RhS} (now : Int) (w : World) (h : RhP w b p v tv r) (hB : RhB p r.L) (htl : r.tn.length ≤ 100000) (hne : ∀ k ∈ r.tn, ofL p r.L k ≠ []) :
    Calls Tryd.prog 129 #[.pointer (some ⟨b, 0, none⟩), .int .i64 now] w fun e w' => e = .returned (.tuple #[(takeX p r).2.2.1.val, .slice none 0 0, .bool (takeX p r).2.2.2]) ∧ ∃ v' tv', RhO w b p v tv (takeX p r).1 w' v' tv' := by
  have H : Hid (RhP w b p v tv r) := h
  have HRB : Hid (RhB p r.L) := hB
  obtain ⟨⟨a0, a1, a2, a3, a4⟩, g3, g4⟩ := h.cells
  have hb := h.lt
  have hV := Hd.val_eq
  obtain ⟨j0, gi, gz0, gz1, gz2⟩ := info_parts infoIntT
  cases ht : r.tn with
  | nil =>
    have HT : Hid (takeX p r = (r, [], hd0, false)) := by show _ = _; unfold takeX; rw [ht]
    obtain ⟨x, cap, hx⟩ := h.trow.slice
    rw [ht] at hx
    simp only [List.length_nil] at hx
    rw [hx] at a4
    clear h hB hne hx
    go_enter Tryd.func129, Tryd.ntmps129
    go_wp2
    (try simp only [Exit.inBlock, Exit.then])
    rw [HT.out]
    refine bodyPost_ret (v := .tuple #[hd0.val, .slice none 0 0, .bool false]) ?_ rfl ⟨rfl, _, _, (RhO.refl H.out).below ?_⟩
    · rw [results_cell_tmp2 rfl]
      go_simp
      exact ⟨rfl, rfl, rfl, rfl, rfl, rfl⟩
    all_goals repeat' (first | with_reducible exact Below.refl _ _ | with_reducible refine below_set_ ?_ (by simp) _ | with_reducible refine below_alloc_ ?_ _)
  | cons k B =>
    have hMne := hne k (by rw [ht]; simp)
    have HT : Hid (takeX p r = (⟨rmN r.L (hdOr (ofL p r.L k)).n, if (ofL p (rmN r.L (hdOr (ofL p r.L k)).n) k).isEmpty then B else B ++ [k]⟩, [], hdOr (ofL p r.L k), true)) := by show _ = _; unfold takeX; rw [ht]
    have hlt := h.trow
    rw [ht] at hlt
    obtain ⟨tb, tof, tc, e1, htb, hc0, _⟩ := Ins.at hlt (k := 0) (x := k) rfl
    have HTV : Hid (tv = .slice (some ⟨tb, tof, none⟩) (k :: B).length tc) := e1
    rw [e1] at a4 hlt
    have HTC : Hid (∀ j u, (B.map (Value.int .i64))[j]? = some u → w.cell? ⟨tb, tof + 1 + j, none⟩ = some u) := Ins.tailc hlt
    obtain ⟨n1, hn1⟩ : ∃ n1, B.length = n1 := ⟨_, rfl⟩
    have HN1 : Hid (B.length = n1) := hn1
    have hll : (k :: B).length = n1 + 1 := by simp [hn1]
    rw [ht] at htl
    rw [hll] at a4 htl
    have hcap : n1 + 1 ≤ tc ∧ tc ≤ 9223372036854775807 := by
      rcases hlt.form with ⟨h1, _⟩ | ⟨b', off', cap', h1, h2, h3, _⟩
      · simp at h1
      · simp only [Value.slice.injEq] at h1
        obtain ⟨_, _, rfl⟩ := h1
        unfold maxLen at h3
        simp [hn1] at h2
        omega
    rw [Nat.add_zero] at hc0
    have hne2 : tb ≠ b := fun e => h.tne (by rw [e1, e]; rfl)
    have hb1 : b < w.heap.size + 1 := by omega
    have hb2 : b < w.heap.size + 1 + 1 := by omega
    have hl1 : tb < w.heap.size + 1 := by omega
    have hl2 : tb < w.heap.size + 1 + 1 := by omega
    obtain ⟨M', x, hMx⟩ : ∃ M' x, ofL p r.L k = x :: M' := by
      cases hM : ofL p r.L k with
      | nil => exact absurd hM hMne
      | cons x M' => exact ⟨M', x, rfl⟩
    rw [hMx] at HT
    have hxx : hdOr (x :: M') = x := rfl
    rw [hxx] at HT
    have HBLK : Hid (w.heap[b]? = some (.cells #[.int .i64 p.many, .int .i64 p.salt, .int .i64 p.room, v, tv] 75 (0, 0))) := h.blk
    have HOF : Hid (∀ (W : World) (tv1 : Value), RhP W b p v tv1 ⟨r.L, B⟩ → Calls Tryd.prog 131 #[.pointer (some ⟨b, 0, none⟩), .int .i64 k] W fun e w' => ∃ ux cap, e = .returned (.slice ux (M'.length + 1) cap) ∧ OwP W.heap.size W (.slice ux (M'.length + 1) cap) (x :: M') w') := fun W tv1 hW => by
      have := HRB.out.of hW k
      rw [hMx] at this
      exact this
    have hMl : M'.length + 1 ≤ 100000 := by
      have h1 := (ofL_sub p r.L k).length_le
      rw [hMx] at h1
      have h2 := hB.len
      simp at h1
      omega
    clear h hB hne hMne hlt hn1 hll hxx e1 hMx ht
    go_enter Tryd.func129, Tryd.ntmps129
    go_upto_region 4 with (fail)
    go_cut [] (fun wx => ∃ tv1, RhM w b p v tv w.heap.size hd0 ⟨r.L, B⟩ wx v tv1)
    case first =>
      cases B with
      | nil =>
        obtain rfl : n1 = 0 := HN1.out.symm
        by_cases hc1 : tc = 1
        · subst hc1
          go_wp2
          go_meet
          case rel =>
            refine ⟨.slice (some ⟨w.heap.size + 1, 0, none⟩) 0 0, RhM.start H.out (H.out.newT' ?_ (Ot.alloc (Ot.alloc (Ot.setCell (S := (· = b)) (p := ⟨b, 4, none⟩) (Ot.refl _ _) (Or.inl rfl) _) _) _) (iseg_empty (new_block_ (by simp [World.setCell]))) (fun k hk => ?_)) ?_ (fun k hk => ?_)⟩
            · rw [Below.heap_alloc _ _ _ (by simp [World.setCell]; omega), Below.heap_alloc _ _ _ (by simpa [World.setCell] using hb), heap_setCell_here HBLK.out]
              simp
            · simp only [Value.ownBlock, Option.some.injEq] at hk; omega
            · exact (Below.heap_alloc _ _ _ (by simp [World.setCell])).trans (new_block_ (by simp [World.setCell]))
            · simp only [Value.ownBlock, Option.some.injEq] at hk; omega
        · go_wp2
          go_meet
          case rel =>
            refine ⟨.slice (some ⟨w.heap.size + 1, 0, none⟩) 0 0, RhM.start H.out (H.out.newT' ?_ (Ot.alloc (Ot.alloc (Ot.setCell (S := (· = b)) (p := ⟨b, 4, none⟩) (Ot.refl _ _) (Or.inl rfl) _) _) _) (iseg_empty (new_block_ (by simp [World.setCell]))) (fun k hk => ?_)) ?_ (fun k hk => ?_)⟩
            · rw [Below.heap_alloc _ _ _ (by simp [World.setCell]; omega), Below.heap_alloc _ _ _ (by simpa [World.setCell] using hb), heap_setCell_here HBLK.out]
              simp
            · simp only [Value.ownBlock, Option.some.injEq] at hk; omega
            · exact (Below.heap_alloc _ _ _ (by simp [World.setCell])).trans (new_block_ (by simp [World.setCell]))
            · simp only [Value.ownBlock, Option.some.injEq] at hk; omega
      | cons k2 B2 =>
        have hml : 0 < n1 := by rw [← HN1.out]; simp
        have hc1 : ¬ tc = 1 := by omega
        go_wp2_with (at_builtin; refine wpList_append_seg _ rfl (.tmp 23) (.tmp 28) 24 rfl 3 j0 _ 1 8 Tryd.underlying24 gi gz0 gz1 gz2 rfl (by decide) (.slice (some ⟨w.heap.size + 1, 0, none⟩) 0 0) 0 [] rfl (iseg_empty (new_block_ (by simp))) ⟨tb, tof + 1, none⟩ n1 (tc - 1) ((k2 :: B2).map (Value.int .i64)) rfl (by rw [List.length_map, HN1.out]; simp) (fun j u hj => by rw [Addr.add_lit, World.cell?_alloc_lt _ _ _ (by simp; omega), World.cell?_alloc_lt _ _ _ (by exact htb)]; exact HTC.out j u hj) (ints_ones _) hml (by unfold maxLen; omega) (by omega) _ rfl ?_; intro g goff gcap w1 hs1 hg1 ha1 hl1; have hblk1 : w1.heap[b]? = some (.cells #[.int .i64 p.many, .int .i64 p.salt, .int .i64 p.room, v, tv] 75 (0, 0)) := (hg1.block b (by simp; omega) (by simp [Value.ownBlock]; omega)).trans ((Below.heap_alloc _ _ _ (by simp; omega)).trans ((Below.heap_alloc _ _ _ hb).trans HBLK.out)); obtain ⟨⟨q0, q1, q2, q3, q4⟩, r3, r4⟩ := fives hblk1; have hbw := lt_of_block hblk1)
        go_meet
        case rel =>
          have hg2 : w.heap.size + 1 ≤ g := by
            rcases ha1 with h1 | h1
            · simp only [Value.ownBlock, Option.some.injEq] at h1; omega
            · simp at h1; omega
          refine ⟨.slice (some ⟨g, goff, none⟩) n1 gcap, RhM.start H.out (H.out.newT' ?_ (Ot.setCell (S := (· = b)) (p := ⟨b, 4, none⟩) (Ot.grown (row := some (w.heap.size + 1)) (Ot.alloc (Ot.alloc (Ot.refl _ _) _) _) hg1 (fun k e => Or.inr (by simp at e; omega))) (Or.inl rfl) _) (Seg.setCell (p := ⟨b, 4, none⟩) ?_ (by simp [Value.ownBlock]; omega) _) (fun k hk => ?_)) ?_ (fun k hk => ?_)⟩
          · rw [heap_setCell_here hblk1]
            simp
          · rw [List.length_cons] at HN1
            have := HN1.out
            simpa [this] using hs1
          · simp only [Value.ownBlock, Option.some.injEq] at hk; omega
          · show _ = _
            rw [Below.heap_setCell _ _ _ _ (by show w.heap.size ≠ b; omega), hg1.block _ (by simp; omega) (by simp [Value.ownBlock]), Below.heap_alloc _ _ _ (by simp)]
            exact new_block _ _
          · simp only [Value.ownBlock, Option.some.injEq] at hk; omega
    case rest =>
      obtain ⟨tv1, hm⟩ := hcut
      have HM1 : Hid (RhM w b p v tv w.heap.size hd0 ⟨r.L, B⟩ wc v tv1) := hm
      have hbc := hm.o.pos.lt
      clear hm a0 a1 a2 a3 a4 g3 g4 HTC hc0 HBLK HTV
      have HOF1 := HOF.out wc tv1 HM1.out.o.pos
      go_wp2_with (go_at_call 131; fail)
      refine HOF1.mono ?_
      rintro e w2 ⟨ux2, cap2, rfl, ho2⟩
      have HM2 : Hid (RhM w b p v tv w.heap.size hd0 ⟨r.L, B⟩ w2 v tv1) := HM1.out.below ho2.bel
      obtain ⟨b1, off1, cap1, hx1, _⟩ := Seg.some ho2.row (by simp)
      have hx1' : ux2 = some ⟨b1, off1, none⟩ := by simp at hx1; exact hx1.1
      subst hx1'
      have hb12 : b1 < w2.heap.size := Seg.lt ho2.row rfl
      obtain ⟨p0, p1, p2, p3, p4, p5⟩ := Ps.head ho2.row
      have hb2' := HM2.out.o.pos.lt
      have HX0 : Hid (RhM w2 b p v tv1 w2.heap.size x ⟨r.L, B⟩ (w2.alloc (.cells #[.int .i64 x.a, .int .i64 x.l, .int .i64 x.f, .int .i64 x.b, .int .i64 x.m, .int .i64 x.n] 99)) v tv1) := RhM.al HM2.out.o.pos x
      have HOU := rout_any x _ HX0.out.o.pos (by have := HRB.out.len; show r.L.length ≤ _; omega)
      rw [Hd.val_eq x] at HOU
      clear ho2 HOF1 HM1 hx1
      go_wp2_with (go_at_call 132; fail)
      refine HOU.mono ?_
      rintro e w3 ⟨rfl, v3, hp3, hn3, ho3⟩
      have HX3 : Hid (RhM w2 b p v tv1 w2.heap.size x ⟨rmN r.L x.n, B⟩ w3 v3 tv1) := HX0.out.step (RhO.of_out hp3 hn3 ho3)
      have HM3 : Hid (RhM w b p v tv w.heap.size hd0 ⟨rmN r.L x.n, B⟩ w3 v3 tv1) := HM2.out.step HX3.out.o
      have HRB3 : Hid (RhB p (rmN r.L x.n)) := ⟨HRB.out.m0, HRB.out.m1, HRB.out.s0, HRB.out.s1, Nat.le_trans (rmN_sub _ _).length_le HRB.out.len, fun y hy => HRB.out.flow y ((rmN_sub _ _).subset hy)⟩
      clear hp3 hn3 ho3 HOU HX0 p0 p1 p2 p3 p4 p5
      have HOF2 := HRB3.out.of HX3.out.o.pos k
      have hb3 := HX3.out.o.pos.lt
      obtain ⟨⟨y0, y1, y2, y3, y4, y5⟩, _⟩ := six HX3.out.box
      have hl3 : w2.heap.size < w3.heap.size := lt_of_block HX3.out.box
      go_wp2_with (go_at_call 131; fail)
      refine HOF2.mono ?_
      rintro e w4 ⟨ux4, cap4, rfl, ho4⟩
      have HX4 : Hid (RhM w2 b p v tv1 w2.heap.size x ⟨rmN r.L x.n, B⟩ w4 v3 tv1) := HX3.out.below ho4.bel
      have HM4 : Hid (RhM w b p v tv w.heap.size hd0 ⟨rmN r.L x.n, B⟩ w4 v3 tv1) := HM3.out.below ho4.bel
      clear ho4 HOF2 HX3 HM3 y0 y1 y2 y3 y4 y5 hl3 hb3
      obtain ⟨⟨a0, a1, a2, a3, a4⟩, g3, g4⟩ := HX4.out.o.pos.cells
      have hb4 := HX4.out.o.pos.lt
      obtain ⟨L2, hL2⟩ : ∃ L2, ofL p (rmN r.L x.n) k = L2 := ⟨_, rfl⟩
      rw [hL2] at HT ⊢
      clear hL2
      go_upto_if 44 with (fail)
      go_cut [] (fun wx => ∃ tv5, RhM w2 b p v tv1 w2.heap.size x ⟨rmN r.L x.n, if L2.isEmpty then B else B ++ [k]⟩ wx v3 tv5 ∧ RhM w b p v tv w.heap.size hd0 ⟨rmN r.L x.n, if L2.isEmpty then B else B ++ [k]⟩ wx v3 tv5)
      case first =>
        cases L2 with
        | nil =>
          go_wp2
          go_meet
          case rel => exact ⟨_, HX4.out, HM4.out⟩
        | cons z L2 =>
          have o1 : 0 < (z :: L2).length := by simp
          have o2 : decide (0 < (z :: L2).length) = true := decide_eq_true o1
          have o3 : decide ((0 : Int) < ((z :: L2).length : Int)) = true := by simp
          generalize (z :: L2).length = zl at *
          have HRW : Hid (Ins w4 tv1 B) := HX4.out.o.pos.trow
          have hBl : B.length ≤ 100000 := by rw [HN1.out]; omega
          go_wp2_with (at_builtin; refine wpList_append_seg _ rfl (.tmp 49) (.tmp 51) 24 rfl 3 j0 _ 1 8 Tryd.underlying24 gi gz0 gz1 gz2 rfl (by decide) tv1 B.length (B.map (Value.int .i64)) rfl (Seg.alloc HRW.out _) ⟨w4.heap.size, 0, none⟩ 1 1 [.int .i64 k] rfl rfl (news_of (new_block_ rfl)) (by simp [Value.oneCell']) (by decide) (by unfold maxLen; omega) (by omega) _ rfl ?_; intro g off cp w8 hs8 hg8 ha8 hl8; have hblk8 := HX4.out.o.pos.mid (below_alloc_ (Below.refl _ _) _) hg8 HX4.out.o.pos.tne; obtain ⟨⟨q0, q1, q2, q3, q4⟩, r3, r4⟩ := fives hblk8; have hb8 := lt_of_block hblk8)
          go_meet
          case rel =>
            have hps := HX4.out.o.pos.pushT (below_alloc_ (Below.refl _ _) _) hg8 (show Ins w8 _ (B ++ [k]) from by unfold Ins; simpa using hs8) ha8
            exact ⟨_, HX4.out.step hps, HM4.out.step hps⟩
      case rest =>
        obtain ⟨tv5, hx5, hm5⟩ := hcut
        have HM5 : Hid (RhM w b p v tv w.heap.size hd0 ⟨rmN r.L x.n, if L2.isEmpty then B else B ++ [k]⟩ wc v3 tv5) := hm5
        obtain ⟨⟨y0, y1, y2, y3, y4, y5⟩, _⟩ := six hx5.box
        have hl5 : w2.heap.size < wc.heap.size := lt_of_block hx5.box
        have hzb := hm5.box
        unfold BxP at hzb
        obtain ⟨⟨z0, z1, z2, z3, z4, z5⟩, t0, t1, t2, t3, t4, t5⟩ := six hzb
        have hlz : w.heap.size < wc.heap.size := lt_of_block hzb
        have HZB : Hid (BxP wc w.heap.size hd0) := hm5.box
        clear hx5 hm5 hzb a0 a1 a2 a3 a4 g3 g4
        go_wp2
        (try simp only [Exit.inBlock, Exit.then])
        rw [HT.out]
        refine bodyPost_ret (v := .tuple #[x.val, .slice none 0 0, .bool true]) ?_ rfl ⟨rfl, _, _, HM5.out.result _ _ _ _ _ _⟩
        rw [results_cell_tmp2 rfl]
        have hld := load_pack (x := x) (six_set (w := wc) HZB.out (.int .i64 x.a) (.int .i64 x.l) (.int .i64 x.f) (.int .i64 x.b) (.int .i64 x.m) (.int .i64 x.n))
        simp [asAddr, Result.andThen, hld]
end Go.Proofs.YtefflbibacmboaaDoor
