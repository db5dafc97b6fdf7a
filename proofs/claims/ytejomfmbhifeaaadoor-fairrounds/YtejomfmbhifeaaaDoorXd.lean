/-
  millraceref.Hashed: what Put does. Conditions: its numbers within their bounds; few packets.
-/
import Derived.Test.YtejomfmbhifeaaaDoorXc
namespace Go.Proofs.YtejomfmbhifeaaaDoor
open Go.RowKit Go.Extern.Stop Go.Stop Go.Extern

/-- What holds of numbers and packets. -/
structure RhB (p : HaC) (L : List Hd) : Prop where
  m0 : 1 ≤ p.many
  m1 : p.many ≤ 64
  s0 : 0 ≤ p.salt
  s1 : p.salt ≤ 1000000
  len : L.length ≤ 100000
  flow : ∀ y ∈ L, 0 ≤ y.f ∧ y.f ≤ 1000000
theorem RhB.of {p : HaC} {L : List Hd} (h : RhB p L) {b : Nat} {v tv : Value} {tn : List Int} {w : World} (hp : RhP w b p v tv ⟨L, tn⟩) (k : Int) :
    Calls Tryd.prog 131 #[.pointer (some ⟨b, 0, none⟩), .int .i64 k] w fun e w' => ∃ ux cap, e = .returned (.slice ux (ofL p L k).length cap) ∧ OwP w.heap.size w (.slice ux (ofL p L k).length cap) (ofL p L k) w' := by
  refine (rof_any k w hp h.m0 h.m1 h.s0 h.s1 (by have := h.len; show L.length ≤ _; omega) h.flow).mono ?_
  rintro e w' ⟨u, rfl, ho⟩
  obtain ⟨ux, cap, hu, _⟩ := Ps.shape ho.row
  exact ⟨ux, cap, by rw [hu], by rw [← hu]; exact ho⟩
def tn1X (p : HaC) (r : RhS) (x : Hd) : List Int := if (ofL p r.L (whereN p x.f)).isEmpty then r.tn ++ [whereN p x.f] else r.tn
set_option maxRecDepth 20000 in
set_option maxHeartbeats 4000000 in
theorem rhput_any {b : Nat} {p : HaC} {v tv : Value} {r : RhS} (now : Int) (x : Hd) (w : World) (h : RhP w b p v tv r) (hB : RhB p (r.L ++ [x])) (htl : r.tn.length ≤ 100000) :
    Calls Tryd.prog 128 #[.pointer (some ⟨b, 0, none⟩), .int .i64 now, x.val] w fun e w' => ∃ u v' tv', e = .returned u ∧ Ps w' u (putX p r x).2 ∧ (∀ k, u.ownBlock = some k → w.heap.size ≤ k) ∧ RhO w b p v tv (putX p r x).1 w' v' tv' := by
  have H : Hid (RhP w b p v tv r) := h
  have HRB : Hid (RhB p (r.L ++ [x])) := hB
  have hB0 : RhB p r.L := ⟨hB.m0, hB.m1, hB.s0, hB.s1, by have := hB.len; simp at this; omega, fun y hy => hB.flow y (by simp [hy])⟩
  have HRB0 : Hid (RhB p r.L) := hB0
  have hxf := hB.flow x (by simp)
  have hlen : r.L.length + 1 ≤ 100000 := by have := hB.len; simpa using this
  have hb := h.lt
  have HM0 : Hid (RhM w b p v tv w.heap.size x r (w.alloc (.cells #[.int .i64 x.a, .int .i64 x.l, .int .i64 x.f, .int .i64 x.b, .int .i64 x.m, .int .i64 x.n] 99)) v tv) := RhM.al h x
  have HWH : Hid (∀ W : World, RhP W b p v tv r → Calls Tryd.prog 23 #[.pointer (some ⟨b, 0, none⟩), .int .i64 x.f] W fun e w' => e = .returned (.int .i64 (whereN p x.f)) ∧ ∃ n, w' = W.drewN n) := fun W hW => rwhere_any x.f W hW hB.m0 hB.m1 hB.s0 hB.s1 hxf.1 hxf.2
  have HWN : Hid (∃ K : Int, whereN p x.f = K) := ⟨_, rfl⟩
  obtain ⟨i0, hi, hz0, hz1, hz2⟩ := info_parts infoPack
  obtain ⟨j0, gi, gz0, gz1, gz2⟩ := info_parts infoIntT
  rw [Hd.val_eq x]
  clear h hB hB0
  go_enter Tryd.func128, Tryd.ntmps128
  go_wp2_with (go_at_call 23; fail)
  refine (HWH.out _ HM0.out.o.pos).mono ?_
  rintro e w1 ⟨rfl, n1, hw1⟩
  have HM1 : Hid (RhM w b p v tv w.heap.size x r w1 v tv) := by show RhM _ _ _ _ _ _ _ _ _ _ _; rw [hw1]; exact HM0.out.below (below_dr n1)
  clear hw1 HM0 HWH
  have HOF := HRB0.out.of (tn := r.tn) HM1.out.o.pos (whereN p x.f)
  have HTN : Hid (tn1X p r x = if (ofL p r.L (whereN p x.f)).isEmpty then r.tn ++ [whereN p x.f] else r.tn) := rfl
  have HPX : Hid (putX p r x = if ((r.L ++ [x]).length : Int) ≤ p.room then (⟨r.L ++ [x], tn1X p r x⟩, []) else (⟨rmN (r.L ++ [x]) (lsOr (ofL p (r.L ++ [x]) (longX p (r.L ++ [x]) p.many.toNat : Nat))).n, if (ofL p (r.L ++ [x]) (longX p (r.L ++ [x]) p.many.toNat : Nat)).length = 1 then (tn1X p r x).filter (fun i => decide (i ≠ (longX p (r.L ++ [x]) p.many.toNat : Nat))) else tn1X p r x⟩, [lsOr (ofL p (r.L ++ [x]) (longX p (r.L ++ [x]) p.many.toNat : Nat))])) := rfl
  have HTL : Hid ((tn1X p r x).length ≤ 100001) := by
    show _ ≤ _
    unfold tn1X
    split
    · simp; omega
    · omega
  obtain ⟨K, hK⟩ := HWN.out
  rw [hK] at HOF HTN ⊢
  clear hK
  go_wp2_with (go_at_call 131; fail)
  refine HOF.mono ?_
  rintro e w2 ⟨ux2, cap2, rfl, ho2⟩
  have HM2 : Hid (RhM w b p v tv w.heap.size x r w2 v tv) := HM1.out.below ho2.bel
  clear ho2 HOF HM1
  obtain ⟨⟨a0, a1, a2, a3, a4⟩, g3, g4⟩ := HM2.out.o.pos.cells
  have hb2 := HM2.out.o.pos.lt
  go_upto_if 24 with (fail)
  go_cut [] (fun wx => ∃ tv1, RhM w b p v tv w.heap.size x ⟨r.L, tn1X p r x⟩ wx v tv1)
  case first =>
    by_cases h0 : (ofL p r.L K).length = 0
    · have HT1 : Hid (tn1X p r x = r.tn ++ [K]) := by show _ = _; rw [HTN.out, if_pos (by rw [List.isEmpty_iff]; exact List.eq_nil_of_length_eq_zero h0)]
      rw [h0]
      have HRW : Hid (Ins w2 tv r.tn) := HM2.out.o.pos.trow
      clear h0
      go_wp2_with (at_builtin; refine wpList_append_seg _ rfl (.tmp 29) (.tmp 31) 24 rfl 3 j0 _ 1 8 Tryd.underlying24 gi gz0 gz1 gz2 rfl (by decide) tv r.tn.length (r.tn.map (Value.int .i64)) rfl (Seg.alloc HRW.out _) ⟨w2.heap.size, 0, none⟩ 1 1 [.int .i64 K] rfl rfl (news_of (new_block_ rfl)) (by simp [Value.oneCell']) (by decide) (by unfold maxLen; omega) (by omega) _ rfl ?_; intro g off cp w8 hs8 hg8 ha8 hl8; have hblk8 := HM2.out.o.pos.mid (below_alloc_ (Below.refl _ _) _) hg8 HM2.out.o.pos.tne; obtain ⟨⟨q0, q1, q2, q3, q4⟩, r3, r4⟩ := fives hblk8; have hb8 := lt_of_block hblk8)
      go_meet
      case rel =>
        rw [HT1.out]
        exact ⟨_, HM2.out.step (HM2.out.o.pos.pushT (below_alloc_ (Below.refl _ _) _) hg8 (by unfold Ins; simpa using hs8) ha8)⟩
    · have HT1 : Hid (tn1X p r x = r.tn) := by show _ = _; rw [HTN.out, if_neg (by rw [List.isEmpty_iff]; intro e; exact h0 (by rw [e]; rfl))]
      obtain ⟨l0, hl0⟩ : ∃ l0, (ofL p r.L K).length = l0 := ⟨_, rfl⟩
      rw [hl0] at h0 ⊢
      have o1 : ((l0 : Int) == 0) = false := by simp; omega
      clear hl0
      go_wp2
      go_meet
      case rel =>
        rw [HT1.out]
        exact ⟨_, HM2.out⟩
  case rest =>
    obtain ⟨tv1, hm⟩ := hcut
    have HM3 : Hid (RhM w b p v tv w.heap.size x ⟨r.L, tn1X p r x⟩ wc v tv1) := hm
    clear hm a0 a1 a2 a3 a4 g3 g4 hb2 HM2
    obtain ⟨⟨a0, a1, a2, a3, a4⟩, g3, g4⟩ := HM3.out.o.pos.cells
    have hb3 := HM3.out.o.pos.lt
    obtain ⟨⟨x0, x1, x2, x3, x4, x5⟩, _⟩ := six HM3.out.box
    have hB3 : w.heap.size < wc.heap.size := lt_of_block HM3.out.box
    obtain ⟨va, vcap, hv, _⟩ := Ps.shape HM3.out.o.pos.row
    have HV : Hid (v = .slice va r.L.length vcap) := hv
    have HROW : Hid (Seg wc 99 6 (.slice va r.L.length vcap) r.L.length (flt Hd.cs r.L)) := by
      have h1 := HM3.out.o.pos.row
      unfold Ps at h1
      rw [hv] at h1
      exact h1
    rw [hv] at a3
    clear hv
    go_upto_region 4 with (fail)
    go_cut [] (fun wx => ∃ v1, RhM w b p v tv w.heap.size x ⟨r.L ++ [x], tn1X p r x⟩ wx v1 tv1)
    case first =>
      go_region_law (refine step_append_seg _ (by rfl) (.tmp 39) (.tmp 41) 36 (by rfl) 99 i0 _ 6 48 Tryd.underlying36 hi hz0 hz1 hz2 rfl (by decide) _ _ _ (by rfl) (HROW.out.below (by repeat' (first | with_reducible exact Below.refl _ _ | with_reducible refine Below.drew ?_ | with_reducible refine below_alloc_ ?_ _))) ⟨wc.heap.size, 0, none⟩ 1 1 x.cs (by rfl) rfl (news_of (new_block_ (by simp))) x.one (by decide) (by unfold maxLen; omega) (by omega) _ rfl ?_; intro g off cp w4 hs4 hg4 ha4 hl4; have hg5 := hg4; rw [← HV.out] at hg5 ha4; have hbx := (by repeat' (first | with_reducible exact Below.refl _ _ | with_reducible refine Below.drew ?_ | with_reducible refine below_alloc_ ?_ _) : Below wc.heap.size wc (World.alloc (World.drew wc) (.cells x.cs.toArray 99))); have hblk4 := HM3.out.o.pos.mid hbx hg5 HM3.out.o.pos.ne; obtain ⟨⟨q0, q1, q2, q3, q4⟩, r3, r4⟩ := fives hblk4; have hb4 := lt_of_block hblk4)
      all_goals
        go_wp2
        go_meet
        case rel => exact ⟨_, HM3.out.step (HM3.out.o.pos.pushL hbx hg5 (Ps.snoc hs4 rfl) ha4)⟩
    case rest =>
      obtain ⟨v4, hm⟩ := hcut
      have HM4 : Hid (RhM w b p v tv w.heap.size x ⟨r.L ++ [x], tn1X p r x⟩ wc v4 tv1) := hm
      clear hm a0 a1 a2 a3 a4 g3 g4 hb3 x0 x1 x2 x3 x4 x5 hB3 HM3 HROW HV
      obtain ⟨⟨a0, a1, a2, a3, a4⟩, g3, g4⟩ := HM4.out.o.pos.cells
      have hb4 := HM4.out.o.pos.lt
      obtain ⟨va, vcap, hv, _⟩ := Ps.shape HM4.out.o.pos.row
      have HLL : Hid ((r.L ++ [x]).length = r.L.length + 1) := by show _ = _; simp
      have HXI : Hid (x ∈ r.L ++ [x]) := by show _ ∈ _; simp
      obtain ⟨L1, hL1⟩ : ∃ L1, r.L ++ [x] = L1 := ⟨_, rfl⟩
      rw [hL1] at HM4 HRB HPX hv HLL HXI
      obtain ⟨tn1, htn1⟩ : ∃ tn1, tn1X p r x = tn1 := ⟨_, rfl⟩
      rw [htn1] at HM4 HPX HTL
      have hn1 : L1.length ≤ 100000 := by rw [HLL.out]; exact hlen
      rw [show ({ L := L1, tn := tn1 } : RhS).L.length = L1.length from rfl] at hv
      obtain ⟨n1', hn1'⟩ : ∃ n1', L1.length = n1' := ⟨_, rfl⟩
      have HN1 : Hid (L1.length = n1') := hn1'
      rw [hn1'] at hv hn1 HPX
      rw [hv] at a3
      clear hL1 htn1 hv hn1' HLL HTN
      by_cases hfit : (n1' : Int) ≤ p.room
      · have HP2 : Hid (putX p r x = (⟨L1, tn1⟩, [])) := by show _ = _; rw [HPX.out, if_pos hfit]
        have o1 : decide ((n1' : Int) ≤ p.room) = true := decide_eq_true hfit
        clear hfit HPX
        go_wp2
        go_quiet (fail)
        go_wp2
        go_ret
        rw [HP2.out]
        exact ⟨_, _, _, rfl, Ps.nil _, fun k hk => by simp [Value.ownBlock] at hk, (HM4.out.below (below_dr _)).o⟩
      · have o1 : decide ((n1' : Int) ≤ p.room) = false := decide_eq_false hfit
        have HP2 : Hid (putX p r x = (⟨rmN L1 (lsOr (ofL p L1 (longX p L1 p.many.toNat : Nat))).n, if (ofL p L1 (longX p L1 p.many.toNat : Nat)).length = 1 then tn1.filter (fun i => decide (i ≠ (longX p L1 p.many.toNat : Nat))) else tn1⟩, [lsOr (ofL p L1 (longX p L1 p.many.toNat : Nat))])) := by show _ = _; rw [HPX.out, if_neg hfit]
        obtain ⟨mm, hmm⟩ : ∃ mm : Nat, p.many = (mm : Int) := ⟨p.many.toNat, by have := HRB.out.m0; omega⟩
        have hmm1 : 1 ≤ mm ∧ mm ≤ 64 := by have := HRB.out.m0; have := HRB.out.m1; omega
        have hmt : p.many.toNat = mm := by omega
        rw [hmt] at HP2
        have HA0 : Hid (p.many = (mm : Int)) := hmm
        rw [hmm] at a0
        clear hfit HPX hmm hmt
        go_wp2
        go_quiet (fail)
        go_wp2
        go_loopw [8, 59] (fun mv iv wr => ∃ i : Nat, i ≤ mm ∧ iv = .int .i64 i ∧ mv = .int .i64 (longX p L1 i : Nat) ∧ RhM w b p v tv w.heap.size x ⟨L1, tn1⟩ wr v4 tv1) (fun _ iv _ => mm - (intOf iv).toNat)
        case atStart => exact ⟨0, Nat.zero_le _, rfl, rfl, HM4.out.below (below_dr _)⟩
        case round =>
          obtain ⟨i, him, rfl, rfl, hr⟩ := hrel
          have HR : Hid (RhM w b p v tv w.heap.size x ⟨L1, tn1⟩ wr v4 tv1) := hr
          clear hr HM4
          by_cases hlt : i < mm
          · have HLX : Hid (longX p L1 (i + 1) = if (ofL p L1 (longX p L1 i : Nat)).length < (ofL p L1 (i : Int)).length then i else longX p L1 i) := rfl
            have HOF1 := HRB.out.of HR.out.o.pos (i : Int)
            have hbr := HR.out.o.pos.lt
            go_wp2_with (go_at_call 131; fail)
            refine HOF1.mono ?_
            rintro e w5 ⟨ux5, cap5, rfl, ho5⟩
            have HR5 : Hid (RhM w b p v tv w.heap.size x ⟨L1, tn1⟩ w5 v4 tv1) := HR.out.below ho5.bel
            clear ho5 HOF1 HR
            have HOF2 := HRB.out.of HR5.out.o.pos (longX p L1 i : Nat)
            go_wp2_with (go_at_call 131; fail)
            refine HOF2.mono ?_
            rintro e w6 ⟨ux6, cap6, rfl, ho6⟩
            have HR6 : Hid (RhM w b p v tv w.heap.size x ⟨L1, tn1⟩ w6 v4 tv1) := HR5.out.below ho6.bel
            clear ho6 HOF2 HR5
            generalize (ofL p L1 (i : Int)).length = aa at *
            generalize (ofL p L1 (longX p L1 i : Nat)).length = cc at *
            generalize longX p L1 i = lx at *
            by_cases hac : cc < aa
            · have o3 : decide ((cc : Int) < (aa : Int)) = true := by simp; omega
              have o2 : decide (cc < aa) = true := decide_eq_true hac
              rw [if_pos hac] at HLX
              clear hac
              go_wp2
              go_roundw
              case rel => exact ⟨i + 1, by omega, by go_num, by rw [HLX.out], HR6.out⟩
              case measure => simp [intOf]; omega
            · have o3 : decide ((cc : Int) < (aa : Int)) = false := by simp; omega
              have o2 : decide (cc < aa) = false := decide_eq_false hac
              rw [if_neg hac] at HLX
              clear hac
              go_wp2
              go_roundw
              case rel => exact ⟨i + 1, by omega, by go_num, by rw [HLX.out], HR6.out⟩
              case measure => simp [intOf]; omega
          · obtain rfl : i = mm := by omega
            have hMne := long_ne HRB.out.m0 HA0.out HXI.out
            have HOF3 := HRB.out.of HR.out.o.pos (longX p L1 i : Nat)
            generalize longX p L1 i = K2 at *
            obtain ⟨M, hM⟩ : ∃ M, ofL p L1 (K2 : Int) = M := ⟨_, rfl⟩
            rw [hM] at hMne HOF3 HP2
            obtain ⟨lm, hlm⟩ : ∃ lm, M.length = lm + 1 := ⟨M.length - 1, by have := List.length_pos_iff.2 hMne; omega⟩
            have HLM : Hid (M.length = lm + 1) := hlm
            have hlb : lm + 1 ≤ 100000 := by rw [← hlm, ← hM]; exact Nat.le_trans (ofL_sub _ _ _).length_le HRB.out.len
            have hy := last_at hlm
            obtain ⟨y, hyy⟩ : ∃ y, lsOr M = y := ⟨_, rfl⟩
            rw [hyy] at hy HP2
            rw [hlm] at HOF3
            have hbr := HR.out.o.pos.lt
            clear hM hMne hyy hlm hlt him
            go_wp2_with (go_at_call 131; fail)
            refine HOF3.mono ?_
            rintro e w7 ⟨ux7, cap7, rfl, ho7⟩
            have HR7 : Hid (RhM w b p v tv w.heap.size x ⟨L1, tn1⟩ w7 v4 tv1) := HR.out.below ho7.bel
            obtain ⟨b1, off1, cap1, hx1, _⟩ := Seg.some ho7.row (by rw [HLM.out]; omega)
            have hx1' : ux7 = some ⟨b1, off1, none⟩ := by simp at hx1; exact hx1.1
            subst hx1'
            have hb17 : b1 < w7.heap.size := Seg.lt ho7.row rfl
            obtain ⟨p0, p1, p2, p3, p4, p5⟩ := Ps.cells ho7.row hy
            have hb7 := HR7.out.o.pos.lt
            have HY0 : Hid (RhM w7 b p v4 tv1 w7.heap.size y ⟨L1, tn1⟩ (w7.alloc (.cells #[.int .i64 y.a, .int .i64 y.l, .int .i64 y.f, .int .i64 y.b, .int .i64 y.m, .int .i64 y.n] 99)) v4 tv1) := RhM.al HR7.out.o.pos y
            have HOU := rout_any y _ HY0.out.o.pos (by have := HRB.out.len; show L1.length ≤ _; omega)
            rw [Hd.val_eq y] at HOU
            clear ho7 HOF3 HR hx1 hy
            go_wp2_with (go_at_call 132; fail)
            refine HOU.mono ?_
            rintro e w9 ⟨rfl, v9, hp9, hn9, ho9⟩
            have HY9 : Hid (RhM w7 b p v4 tv1 w7.heap.size y ⟨rmN L1 y.n, tn1⟩ w9 v9 tv1) := HY0.out.step (RhO.of_out hp9 hn9 ho9)
            clear hp9 hn9 ho9 HOU HY0 p0 p1 p2 p3 p4 p5
            obtain ⟨⟨a0', a1', a2', a3', a4'⟩, g3', g4'⟩ := HY9.out.o.pos.cells
            have hb9 := HY9.out.o.pos.lt
            obtain ⟨tx, tcap, htx⟩ := HY9.out.o.pos.trow.slice
            have HTX : Hid (tv1 = .slice tx tn1.length tcap) := htx
            rw [htx] at a4'
            obtain ⟨tl, htl2⟩ : ∃ tl, tn1.length = tl := ⟨_, rfl⟩
            have HTLN : Hid (tn1.length = tl) := htl2
            have htl1 : tl ≤ 100001 := by rw [← htl2]; exact HTL.out
            rw [htl2] at a4'
            clear htx htl2
            go_upto_if 87 with (fail)
            go_cut [] (fun wx => ∃ tv9, RhM w7 b p v4 tv1 w7.heap.size y ⟨rmN L1 y.n, if lm + 1 = 1 then tn1.filter (fun i => decide (i ≠ (K2 : Int))) else tn1⟩ wx v9 tv9)
            case first =>
              by_cases h0 : lm = 0
              · subst h0
                go_wp2
                go_loopw [12, 93] (fun ov iv wl => ∃ j : Nat, j ≤ tl ∧ iv = .int .i64 j ∧ OwI w9.heap.size w9 ov ((tn1.take j).filter (fun i => decide (i ≠ (K2 : Int)))) wl) (fun _ iv _ => tl - (intOf iv).toNat)
                case atStart => exact ⟨0, Nat.zero_le _, rfl, Ins.nil _, fun k hk => by simp [Value.ownBlock] at hk, Below.refl _ _⟩
                case round =>
                  obtain ⟨j, hj, rfl, ho⟩ := hrel
                  have HO : Hid (OwI w9.heap.size w9 u12 ((tn1.take j).filter (fun i => decide (i ≠ (K2 : Int)))) wr) := ho
                  have hsw := ho.bel.size
                  have hfl : ((tn1.take j).filter (fun i => decide (i ≠ (K2 : Int)))).length ≤ j := Nat.le_trans List.filter_sublist.length_le (List.length_take_le _ _)
                  clear ho
                  by_cases hlt : j < tl
                  · obtain ⟨t, ht⟩ : ∃ t, tn1[j]? = some t := ⟨_, List.getElem?_eq_getElem (by rw [HTLN.out]; exact hlt)⟩
                    have HSU : Hid ((tn1.take (j + 1)).filter (fun i => decide (i ≠ (K2 : Int))) = if t ≠ (K2 : Int) then (tn1.take j).filter (fun i => decide (i ≠ (K2 : Int))) ++ [t] else (tn1.take j).filter (fun i => decide (i ≠ (K2 : Int)))) := filt_succ ht
                    obtain ⟨tb, tof, tc, e1, htb, hcc, _⟩ := Ins.at (Seg.below HY9.out.o.pos.trow HO.out.bel) ht
                    have e2 := HTX.out.symm.trans e1
                    simp only [Value.slice.injEq, true_and] at e2
                    obtain ⟨e3, e4⟩ := e2
                    subst e3 e4
                    obtain ⟨X, hX⟩ : ∃ X, (tn1.take j).filter (fun i => decide (i ≠ (K2 : Int))) = X := ⟨_, rfl⟩
                    rw [hX] at HSU HO hfl
                    clear hX ht e1
                    by_cases hk : t = (K2 : Int)
                    · have o4 : (t == (K2 : Int)) = true := by simpa using hk
                      have o5 : (t != (K2 : Int)) = false := by simpa using hk
                      have HS2 : Hid ((tn1.take (j + 1)).filter (fun i => decide (i ≠ (K2 : Int))) = X) := by show _ = _; rw [HSU.out, if_neg (by simpa using hk)]
                      clear hk
                      go_wp2
                      go_roundw
                      case rel => exact ⟨j + 1, by omega, by go_num, by rw [HS2.out]; exact HO.out⟩
                      case measure => simp [intOf]; omega
                    · have o4 : (t == (K2 : Int)) = false := by simpa using hk
                      have o5 : (t != (K2 : Int)) = true := by simpa using hk
                      have HS2 : Hid ((tn1.take (j + 1)).filter (fun i => decide (i ≠ (K2 : Int))) = X ++ [t]) := by show _ = _; rw [HSU.out, if_pos hk]
                      clear hk
                      go_wp2_with (at_builtin; refine wpList_append_seg _ rfl (.tmp 100) (.tmp 102) 24 rfl 3 j0 _ 1 8 Tryd.underlying24 gi gz0 gz1 gz2 rfl (by decide) u12 X.length (X.map (Value.int .i64)) rfl (Seg.alloc HO.out.row _) ⟨wr.heap.size, 0, none⟩ 1 1 [.int .i64 t] rfl rfl (news_of (new_block_ rfl)) (by simp [Value.oneCell']) (by decide) (by unfold maxLen; omega) (by omega) _ rfl ?_; intro g off2 cap2 w10 hs8 hg8 ha8 hl8)
                      have HO8 : Hid (OwI w9.heap.size w9 (.slice (some ⟨g, off2, none⟩) (X.length + 1) cap2) (X ++ [t]) w10) := HO.out.app (by omega) hs8 hg8 ha8
                      clear hs8 hg8 ha8 hl8
                      go_roundw
                      case rel =>
                        first | exact ⟨j + 1, by omega, by go_num, by rw [HS2.out]; exact HO8.out⟩ | (refine ⟨_, _, _, _, _, _, _, _, _, _, _, _, _, _, ?_, rfl⟩; exact ⟨j + 1, by omega, by go_num, by rw [HS2.out]; exact HO8.out⟩)
                      case measure => simp [intOf]; omega
                  · obtain rfl : j = tl := by omega
                    have HE : Hid ((tn1.take j).filter (fun i => decide (i ≠ (K2 : Int))) = tn1.filter (fun i => decide (i ≠ (K2 : Int)))) := by show _ = _; rw [List.take_of_length_le (by rw [HTLN.out]; exact Nat.le_refl _)]
                    obtain ⟨⟨c0, c1, c2, c3, c4⟩, f3, f4⟩ := (HY9.out.o.pos.below HO.out.bel).cells
                    have hbw := (HY9.out.o.pos.below HO.out.bel).lt
                    have HNT : Hid (RhM w7 b p v4 tv1 w7.heap.size y ⟨rmN L1 y.n, tn1.filter (fun i => decide (i ≠ (K2 : Int)))⟩ (wr.setCell ⟨b, 4, none⟩ u12) v9 u12) := HY9.out.step (HY9.out.o.pos.newT HO.out.bel (by rw [← HE.out]; exact HO.out.row) HO.out.new)
                    obtain ⟨ox, ol, ocap, hox⟩ : ∃ ox ol ocap, u12 = .slice ox ol ocap := by obtain ⟨a, c, h⟩ := HO.out.row.slice; exact ⟨a, _, c, h⟩
                    subst hox
                    clear HO
                    go_wp2
                    go_meet
                    case rel => rw [if_pos trivial]; exact ⟨_, HNT.out⟩
              · have o4 : ((lm : Int) + 1 == 1) = false := by simp; omega
                have hne : ¬ lm + 1 = 1 := by omega
                go_wp2
                go_meet
                case rel => rw [if_neg hne]; exact ⟨_, HY9.out⟩
            case rest =>
              obtain ⟨tv9, hm9⟩ := hcut
              have HYZ : Hid (RhM w7 b p v4 tv1 w7.heap.size y ⟨rmN L1 y.n, if lm + 1 = 1 then tn1.filter (fun i => decide (i ≠ (K2 : Int))) else tn1⟩ wc v9 tv9) := hm9
              obtain ⟨⟨x0, x1, x2, x3, x4, x5⟩, _⟩ := six hm9.box
              have hBc : w7.heap.size < wc.heap.size := lt_of_block hm9.box
              clear hm9
              go_wp2
              go_ret
              rw [HP2.out, HLM.out]
              refine ⟨_, _, _, rfl, Ps.one (x := y) (new_block_ rfl), fun k hk => ?_, (HR7.out.o.trans HYZ.out.o).below (below_alloc_ (Below.refl _ _) _)⟩
              have h1 : some wc.heap.size = some k := hk
              have h2 := Option.some.inj h1
              have := HR7.out.o.ot.size
              omega
end Go.Proofs.YtejomfmbhifeaaaDoor
