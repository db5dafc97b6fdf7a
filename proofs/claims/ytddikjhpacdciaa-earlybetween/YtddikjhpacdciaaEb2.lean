/-
  millracekeep.EarlyBetween: it returns true at every setup, room, tape and all steps; nothing that was there before is otherwise. Conditions: tape and steps lie in memory.
-/
import Derived.Test.YtddikjhpacdciaaEb1
import Derived.Test.YtddikjhpacdciaaPk
namespace Go.Proofs.Ytddikjhpacdciaa
open Go.RowKit Go.Extern.Stop Go.Stop Go.Extern

theorem ptrR (b : Nat) (w : World) : (binOp .eql 27 (.pointer (some ⟨b, 0, none⟩)) (.pointer none)).run Try.prog w = .ok (.bool false) w := by kernel_rfl
theorem ptrRN (w : World) : (binOp .eql 27 (.pointer none) (.pointer none)).run Try.prog w = .ok (.bool true) w := by kernel_rfl
theorem ot_zero {F : Nat → Prop} {w w6 : World} {o : Obj} (hF : ∀ j, F j → j < w.heap.size) (ho : Ot F (w.alloc o).drew w6) : w6.heap[w.heap.size]? = some o := by
  rw [ho.block _ (by show _ < (w.alloc o).heap.size; simp) (fun h => by have := hF _ h; omega)]
  exact new_block w o
theorem ot_sixs {F : Nat → Prop} {w w6 : World} {a0 a1 a2 a3 a4 a5 : Value} {r : Nat} (h : Ot F w w6) (hr : w.heap.size ≤ r) : Ot F w ((((((w6.setCell ⟨r, 0, none⟩ a0).setCell ⟨r, 1, none⟩ a1).setCell ⟨r, 2, none⟩ a2).setCell ⟨r, 3, none⟩ a3).setCell ⟨r, 4, none⟩ a4).setCell ⟨r, 5, none⟩ a5) := by
  repeat' (first | with_reducible exact h | with_reducible refine Ot.setCell ?_ (Or.inr hr) _)
set_option maxRecDepth 20000 in
set_option maxHeartbeats 8000000 in
theorem between_any (q : RSet) (P0 : Int) (px : Option Addr) (m pcap : Nat) (f : Nat → Int) (x : Option Addr) (cap : Nat) (xs : List Stp) (w : World) (hI : IRow w px m f) (hpn : px = none → m = 0 ∧ pcap = 0) (hpm : m ≤ maxLen) (hl : Lies w x (flt Stp.cs xs)) (hm : xs.length ≤ maxLen) :
    Calls Try.prog 3 #[q.val, .int .i64 P0, .slice px m pcap, .slice x xs.length cap] w fun e w' => e = .returned (.bool true) ∧ Below w.heap.size w w' := by
  have HL : Hid (Lies w x (flt Stp.cs xs)) := hl
  have HIR : Hid (IRow w px m f) := hI
  have HPN : Hid (px = none → m = 0 ∧ pcap = 0) := hpn
  clear hl hI hpn
  unfold maxLen at hm hpm
  obtain ⟨N, hq⟩ : ∃ N, xs.length = N := ⟨_, rfl⟩
  have HN : Hid (xs.length = N) := hq
  rw [hq] at hm ⊢
  clear hq
  have hp1 := ptrR
  have hp2 := ptrRN
  have hqv := RSet.val_eq q
  rw [hqv]
  by_cases hlen : 120 < N
  · go_enter Try.func3, Try.ntmps3
    go_wp2
    go_ret
    exact ⟨rfl, below_alloc_ (Below.refl _ _) _⟩
  by_cases hlen2 : 500 < m
  · go_enter Try.func3, Try.ntmps3
    go_wp2
    go_ret
    exact ⟨rfl, below_alloc_ (Below.refl _ _) _⟩
  obtain ⟨P, hP⟩ : ∃ P, pickN P0 60 = P := ⟨_, rfl⟩
  have hP1 := pickN_bd P0 60 (by decide)
  rw [hP] at hP1
  have HPP := fun W => pick_any P0 60 W (by decide) (by decide)
  rw [hP] at HPP
  clear hP hm hpm
  obtain ⟨i0, hi, hz0, hz1, hz2⟩ := info_parts infoInt1
  by_cases hok : q.Ok
  · have HOK : Hid q.Ok := hok
    have HNW : Hid (∀ W : World, Below w.heap.size w W → Calls Try.prog 8 #[.agg #[.int .i64 q.lo, .int .i64 q.hi, .int .i64 q.often, .int .i64 q.sl, .bool q.mrk], .int .i64 P, .int .i64 1000000, .slice px m pcap] W fun e w' => ∃ b tv, e = .returned (.tuple #[.pointer (some ⟨b, 0, none⟩), .nilIface]) ∧ RedP w' b P 1000000 q (.slice none 0 0) tv ⟨[], tapeL m f, 0, 0⟩ ∧ W.heap.size ≤ b ∧ (∀ k, tv.ownBlock = some k → W.heap.size ≤ k) ∧ Below W.heap.size W w') := by
      intro W hW
      refine newRed_yes q P 1000000 W ?_ HPN.out (by omega) hok hP1.1 (by omega) (by decide) (by decide)
      rcases HIR.out with h | ⟨b, off, h1, h2, h3⟩
      · exact Or.inl h
      · exact Or.inr ⟨b, off, h1, Nat.lt_of_lt_of_le h2 hW.size, fun i hi => by rw [World.cell?_of_block (w := w) (a := ⟨b, off + i, none⟩) (hW.block b h2)]; exact h3 i hi⟩
    clear hok
    go_enter Try.func3, Try.ntmps3
    go_wp2_with (go_at_call 7; fail)
    refine (HPP _).mono ?_
    rintro e w0 ⟨rfl, hw0⟩
    subst hw0
    go_wp2_with (go_at_call 8; fail)
    refine (HNW.out _ (below_alloc_ (Below.refl _ _) _)).mono ?_
    rintro e w1 ⟨b, tv, rfl, hr1, hbn, htn, hb1⟩
    go_wp2_with (go_at_call 9; fail)
    refine (first_all _).mono ?_
    rintro e w2 ⟨rfl, hb2⟩
    have HB1 : Hid (Below w.heap.size w w1) := (below_alloc_ (Below.refl _ _) _).trans (hb1.mono (by simp))
    have HB2 : Hid (Below w.heap.size w w2) := HB1.out.trans (hb2.mono HB1.out.size)
    have HTC := times_any x cap xs w2 (HL.out.below HB2.out) (by rw [HN.out]; omega)
    rw [HN.out] at HTC
    go_wp2_with (go_at_call 10; fail)
    refine HTC.mono ?_
    rintro e w5 ⟨tw, rfl, ht5, hn5, hb5⟩
    obtain ⟨tx, tcap, htv, htl⟩ := ht5.lies
    rw [timesL_length, HN.out] at htv
    subst htv
    obtain ⟨ts, hts⟩ : ∃ ts, timesL 0 xs = ts := ⟨_, rfl⟩
    have HTG : Hid (∀ (i : Nat) (st : Stp), ts[i]? = some st → st.a = st.lt ∧ nowAt 0 xs i ≤ st.lt ∧ 0 ≤ nowAt 0 xs i ∧ st.lt ≤ 1000000 ∧ st.lt = nowAt 0 xs (i + 1) ∧ (st.what = 0 → It.ok ⟨st.a, st.l, st.f, st.b, st.m⟩ = true)) := by
      intro i st h
      rw [← hts] at h
      exact timesL_get h (by rw [HN.out]; omega)
    have HTN : Hid (ts.length = N) := by show _ = _; rw [← hts, timesL_length, HN.out]
    rw [hts] at htl
    have HTL : Hid (Lies w5 tx (flt Stp.cs ts)) := htl
    have HB5 : Hid (Below w.heap.size w w5) := HB2.out.trans (hb5.mono HB2.out.size)
    have hr5 : RedP w5 b P 1000000 q (.slice none 0 0) tv ⟨[], tapeL m f, 0, 0⟩ := (hr1.below hb2).below hb5
    have hs1 := LAt.lt hr1.pos
    have hs12 := hb2.size
    obtain ⟨F0, hF0⟩ : ∃ F0 : Nat → Prop, F0 = fun k => k = b ∨ (Value.slice none 0 0).ownBlock = some k ∨ tv.ownBlock = some k := ⟨_, rfl⟩
    have HAT : Hid ((RedM b P 1000000 q).At w5 F0 ⟨[], tapeL m f, 0, 0⟩) := ⟨_, tv, hr5, fun k => by rw [hF0]⟩
    have HF0 : Hid (∀ k, F0 k → w.heap.size < k ∧ k < w2.heap.size) := by
      intro k hk
      rw [hF0] at hk
      rcases hk with rfl | h | h
      · simp at hbn; omega
      · simp [Value.ownBlock] at h
      · have h1 := htn k h
        have h2 := Seg.lt hr1.tape h
        simp at h1
        omega
    have HTB : Hid (∀ k, (Value.slice tx N tcap).ownBlock = some k → w2.heap.size ≤ k) := hn5
    have HBX : Hid (w5.heap[w.heap.size]? = some (.cells #[.int .i64 q.lo, .int .i64 q.hi, .int .i64 q.often, .int .i64 q.sl, .bool q.mrk] 23 (0, 0))) := by
      show _ = _
      have hw1 : w.heap.size < w1.heap.size := by have := hb1.size; simp at this; omega
      rw [hb5.block _ (by omega), hb2.block _ hw1, hb1.block _ (by simp)]
      exact new_block w _
    have HS5 : Hid (w2.heap.size ≤ w5.heap.size) := hb5.size
    clear htl hts hb5 ht5 hn5 HTC hr5 hr1 hF0 hb1 hb2 hbn htn
    go_wp2
    go_loopw [12, 13, 14, 15, 16, 17] (fun nv wv bv lv rv iv wr => ∃ (k n : Nat) (s : RdS) (F : Nat → Prop) (ls : List Int), k ≤ N ∧ iv = .int .i64 k ∧ nv = .int .i64 n ∧ wv = .int .i64 s.L.length ∧ bv = .int .i64 (sumL s.L) ∧ lv = .int .i64 (meanR q s.sum) ∧ EbR b P q w5 F0 (nowAt 0 xs k) k n s F rv ls wr) (fun _ _ _ _ _ i _ => N - (intOf i).toNat)
    case atStart =>
      have e0 : nowAt 0 xs 0 = 0 := by cases xs <;> rfl
      refine ⟨0, 0, ⟨[], tapeL m f, 0, 0⟩, F0, [], Nat.zero_le _, rfl, rfl, rfl, rfl, by simp [meanR], HAT.out, ?_, Nat.le_refl _, Ins.nil _, rfl, fun j hj => by simp [Value.ownBlock] at hj, by simp, fun j hj => Or.inl hj, Ot.refl _ _⟩
      rw [e0]
      exact ⟨Nat.le_refl _, by simp, ⟨Int.le_refl _, Int.le_refl _⟩, Int.le_refl _, Int.le_refl _⟩
    case round =>
      obtain ⟨k, n, s, F, ls, hk, rfl, rfl, rfl, rfl, rfl, hr⟩ := hrel
      have HR : Hid (EbR b P q w5 F0 (nowAt 0 xs k) k n s F u16 ls wr) := hr
      clear hr
      by_cases hlt : k < N
      · obtain ⟨st, hst⟩ : ∃ st, ts[k]? = some st := ⟨_, List.getElem?_eq_getElem (by rw [HTN.out]; exact hlt)⟩
        obtain ⟨t1, t2, t3, t4, t5, t6⟩ := HTG.out k st hst
        have T1 : Hid (st.a = st.lt) := t1
        clear t1 t5
        obtain ⟨tb, tof, rfl, htb, c0, c1, c2, c3, c4, c5, c6⟩ := HTL.out.seven hst
        have HCS : Hid (∀ W : World, Ot F0 w5 W → (W.cell? ⟨tb, tof + k * 7, none⟩ = some (.int .i64 st.what) ∧ W.cell? ⟨tb, tof + k * 7 + 1, none⟩ = some (.int .i64 st.lt) ∧ W.cell? ⟨tb, tof + k * 7 + 2, none⟩ = some (.int .i64 st.a) ∧ W.cell? ⟨tb, tof + k * 7 + 3, none⟩ = some (.int .i64 st.l) ∧ W.cell? ⟨tb, tof + k * 7 + 4, none⟩ = some (.int .i64 st.f) ∧ W.cell? ⟨tb, tof + k * 7 + 5, none⟩ = some (.int .i64 st.b) ∧ W.cell? ⟨tb, tof + k * 7 + 6, none⟩ = some (.int .i64 st.m)) ∧ (W.cell? ⟨w.heap.size, 0, none⟩ = some (.int .i64 q.lo) ∧ W.cell? ⟨w.heap.size, 1, none⟩ = some (.int .i64 q.hi) ∧ W.cell? ⟨w.heap.size, 4, none⟩ = some (.bool q.mrk)) ∧ tb < W.heap.size ∧ w.heap.size < W.heap.size) := by
          intro W hW
          have hnb : ¬ F0 tb := fun h => by have := HTB.out tb rfl; have := (HF0.out tb h).2; omega
          have hnw : ¬ F0 w.heap.size := fun h => by have := (HF0.out _ h).1; omega
          have hc : ∀ o, W.cell? ⟨tb, o, none⟩ = w5.cell? ⟨tb, o, none⟩ := fun o => hW.cell (p := ⟨tb, o, none⟩) htb hnb
          have hwl := lt_of_block HBX.out
          obtain ⟨x0, x1, _, _, x4⟩ := fivec ((hW.block _ hwl hnw).trans HBX.out)
          refine ⟨⟨(hc _).trans c0, (hc _).trans c1, (hc _).trans c2, (hc _).trans c3, (hc _).trans c4, (hc _).trans c5, (hc _).trans c6⟩, ⟨x0, x1, x4⟩, Nat.lt_of_lt_of_le htb hW.size, Nat.lt_of_lt_of_le hwl hW.size⟩
        clear c0 c1 c2 c3 c4 c5 c6 hst htb
        obtain ⟨⟨c0, c1, c2, c3, c4, c5, c6⟩, ⟨x0, x1, x4⟩, htb, hwb⟩ := HCS.out wr HR.out.ot
        have hM := redM_fine b P 1000000 q HOK.out hP1.1 (by decide) (by decide)
        have HM : Hid (RedM b P 1000000 q).Fine := hM
        have hnk := HR.out.nk
        have HIN : Hid ((RedM b P 1000000 q).inv (nowAt 0 xs k) n s) := HR.out.inv
        have hll : s.L.length ≤ n := HR.out.inv.1
        clear hM
        go_upto_block 2 with (fail)
        go_cut [12, 13, 14, 15, 16] (fun nv wv bv lv rv wx => ∃ (n' : Nat) (s' : RdS) (F' : Nat → Prop) (ls' : List Int), nv = .int .i64 n' ∧ wv = .int .i64 s'.L.length ∧ bv = .int .i64 (sumL s'.L) ∧ lv = .int .i64 (meanR q s'.sum) ∧ EbR b P q w5 F0 (nowAt 0 xs (k + 1)) (k + 1) n' s' F' rv ls' wx)
        case first =>
          by_cases hw0 : st.what = 0
          · have hw2 : (st.what == 0) = true := by simpa using hw0
            have HOKS : Hid (It.ok ⟨st.a, st.l, st.f, st.b, st.m⟩ = true) := t6 hw0
            clear hw0
            have HPUT : Hid (∀ W : World, (∀ j : Nat, F j → W.heap[j]? = wr.heap[j]?) → Calls Try.prog 11 #[.pointer (some ⟨b, 0, none⟩), .int .i64 st.lt, .agg #[.int .i64 st.a, .int .i64 st.l, .int .i64 st.f, .int .i64 st.b, .int .i64 st.m, .int .i64 n]] W fun e w' => ∃ u F', e = .returned u ∧ Hs w' u (putR P 1000000 q s (hdOf st n)).2 ∧ (RedM b P 1000000 q).At w' F' (putR P 1000000 q s (hdOf st n)).1 ∧ (∀ k, F' k → F k ∨ W.heap.size ≤ k) ∧ (∀ k, u.ownBlock = some k → F k ∨ W.heap.size ≤ k) ∧ Ot F W w') := fun W hW => HM.out.cP (t := nowAt 0 xs k) (n := n) st.lt (hdOf st n) (HM.out.kept HR.out.pos hW) HIN.out t3 t2 t4 HOKS.out T1.out rfl (by omega)
            have HPT : Hid (PutT P q s (hdOf st n) (putR P 1000000 q s (hdOf st n)).1 (putR P 1000000 q s (hdOf st n)).2) := putR_told P q HOK.out s (hdOf st n) HIN.out.2.2.1.1
            have HI6 : Hid ((RedM b P 1000000 q).inv (nowAt 0 xs (k + 1)) (n + 1) (putR P 1000000 q s (hdOf st n)).1) := (HM.out.iP (t := nowAt 0 xs k) st.lt (hdOf st n) HIN.out t3 t2 t4 HOKS.out T1.out rfl (by omega)).1
            obtain ⟨pr, hpr⟩ : ∃ pr, putR P 1000000 q s (hdOf st n) = pr := ⟨_, rfl⟩
            rw [hpr] at HPUT HPT HI6
            obtain ⟨s', gone⟩ := pr
            clear hpr
            have hsl := Fit.sum HIN.out.2.1
            have hstl := ok_len (x := hdOf st n) HOKS.out
            have hstl2 : 1 ≤ st.l ∧ st.l ≤ 10000 := hstl
            obtain ⟨sl, hsl'⟩ : ∃ sl, sumL s.L = sl := ⟨_, rfl⟩
            have HSL : Hid (sumL s.L = sl) := hsl'
            obtain ⟨ln, hln'⟩ : ∃ ln, s.L.length = ln := ⟨_, rfl⟩
            have HLNN : Hid (s.L.length = ln) := hln'
            have hsl2 : 0 ≤ sl ∧ sl ≤ 10000000 ∧ ln ≤ n := by rw [hsl'] at hsl; omega
            rw [hsl', hln']
            clear hsl hstl hsl' hln' hll
            have hls : ls.length ≤ 120 := by have := HR.out.llen; omega
            have hw7l : IntKind.i64.wrap (sl + st.l) = sl + st.l := by rw [IntKind.wrap_i64]; omega
            obtain ⟨full, hfu⟩ : ∃ fb, fullB P s.L st.l = fb := ⟨_, rfl⟩
            have HFU : Hid (full = (decide (P ≤ (ln : Int)) || decide (1000000 < sl + st.l))) := by show _ = _; rw [← hfu, fullB, HSL.out, HLNN.out]
            have HFB : Hid (fullB P s.L (hdOf st n).l = full) := hfu
            clear hfu
            have HKP : Hid (∀ W : World, Ot F0 w5 W → (W.cell? ⟨tb, tof + k * 7 + 1, none⟩ = some (.int .i64 st.lt) ∧ W.cell? ⟨tb, tof + k * 7 + 2, none⟩ = some (.int .i64 st.a) ∧ W.cell? ⟨tb, tof + k * 7 + 3, none⟩ = some (.int .i64 st.l) ∧ W.cell? ⟨tb, tof + k * 7 + 4, none⟩ = some (.int .i64 st.f) ∧ W.cell? ⟨tb, tof + k * 7 + 5, none⟩ = some (.int .i64 st.b) ∧ W.cell? ⟨tb, tof + k * 7 + 6, none⟩ = some (.int .i64 st.m))) := fun W hW => (HCS.out W hW).1.2
            go_upto_region 15 with (fail)
            go_region_held3 (fun W => W.cell? ⟨tb, tof + k * 7 + 1, none⟩ = some (.int .i64 st.lt) ∧ W.cell? ⟨tb, tof + k * 7 + 2, none⟩ = some (.int .i64 st.a) ∧ W.cell? ⟨tb, tof + k * 7 + 3, none⟩ = some (.int .i64 st.l) ∧ W.cell? ⟨tb, tof + k * 7 + 4, none⟩ = some (.int .i64 st.f) ∧ W.cell? ⟨tb, tof + k * 7 + 5, none⟩ = some (.int .i64 st.b) ∧ W.cell? ⟨tb, tof + k * 7 + 6, none⟩ = some (.int .i64 st.m)) (first | exact HKP.out _ HO6.out | exact HKP.out _ HR.out.ot.drew) (first | (go_at_call 11; refine (HPUT.out wr.drew (fun _ _ => rfl)).mono ?_; rintro e w6 ⟨u6, F6, rfl, hu6, ha6, hf6, hn6, ho6⟩; obtain ⟨ux, ucap, huv, _⟩ := Seg.lies hu6; subst huv; have HO6 : Hid (Ot F0 w5 w6) := (HR.out.ot.drew).trans' ho6 (fun j hj hlt => (HR.out.fnew j hj).resolve_right (by omega))))
            have HLN6 : Hid (Ins w6 u16 ls) := Seg.oth (S := F) (w := wr.drew) (Seg.drewN HR.out.lens 1) ho6 (fun j hj => (HR.out.lnew j hj).2)
            have HA6 : Hid ((RedM b P 1000000 q).At w6 F6 s') := ha6
            have HF6 : Hid (∀ j, F6 j → F j ∨ wr.heap.size ≤ j) := fun j hj => by have := hf6 j hj; simpa using this
            have hs6 : wr.heap.size ≤ w6.heap.size := by have := ho6.size; simpa using this
            clear c0 c1 c2 c3 c4 c5 c6 x0 x1 x4 htb hwb hu6 ha6 hf6 hn6 ho6
            obtain ⟨⟨c0, c1, c2, c3, c4, c5, c6⟩, ⟨x0, x1, x4⟩, htb, hwb⟩ := HCS.out w6 HO6.out
            go_upto_region 17 with (at_builtin; refine wpList_append_seg _ rfl (.tmp 81) (.tmp 88) 24 rfl 3 i0 _ 1 8 Try.underlying24 hi hz0 hz1 hz2 rfl (by decide) _ _ _ rfl (Seg.below HLN6.out (below_alloc_ (Below.refl _ _) _)) ⟨w6.heap.size, 0, none⟩ 1 1 [.int .i64 st.l] rfl rfl (news_of (new_block_ (by simp))) (by simp [Value.oneCell']) (by decide) (by unfold maxLen; omega) (by omega) _ rfl ?_; intro g off cap2 w7 hs7 hg7 ha7 hl7)
            have HO7 : Hid (Ot F0 w5 w7) := Ot.grown (HO6.out.alloc _) hg7 (fun j e => Or.inr (HR.out.lnew j e).1)
            have HL7 : Hid (Ins w7 (.slice (some ⟨g, off, none⟩) (ls.length + 1) cap2) (ls ++ [st.l])) := by show Ins _ _ _; unfold Ins; simpa using hs7
            have hg7b : ∀ j, u16.ownBlock = some j → j < wr.heap.size := fun j hj => Seg.lt HR.out.lens hj
            have HA7 : Hid ((RedM b P 1000000 q).At w7 F6 s') := HM.out.kept HA6.out (fun j hj => by
              have hjl := HM.out.low HA6.out j hj
              refine (hg7.block j (by simp; omega) (fun e => ?_)).trans (Below.heap_alloc _ _ _ hjl)
              rcases HF6.out j hj with h | h
              · exact (HR.out.lnew j e.symm).2 h
              · have := hg7b j e.symm; omega)
            have HN7 : Hid (∀ j, (Value.slice (some ⟨g, off, none⟩) (ls.length + 1) cap2).ownBlock = some j → w5.heap.size ≤ j ∧ ¬ F6 j) := by
              intro j hj
              simp only [Value.ownBlock, Option.some.injEq] at hj
              subst hj
              have hw5 := HO6.out.size
              rcases ha7 with h | h
              · refine ⟨(HR.out.lnew _ h).1, fun hf => ?_⟩
                rcases HF6.out _ hf with h' | h'
                · exact (HR.out.lnew _ h).2 h'
                · have := hg7b _ h; omega
              · simp at h
                refine ⟨by omega, fun hf => ?_⟩
                have := HM.out.low HA6.out _ hf
                omega
            clear c0 c1 c2 c3 c4 c5 c6 x0 x1 x4 htb hwb hs7 hg7 ha7
            obtain ⟨⟨c0, c1, c2, c3, c4, c5, c6⟩, ⟨x0, x1, x4⟩, htb, hwb⟩ := HCS.out w7 HO7.out
            go_cut [19] (fun fv wx => fv = .bool full ∧ wx = w7)
            case first =>
             as_aux_lemma =>
              by_cases f1 : P ≤ (ln : Int)
              · go_wp2
                go_meet
                case rel => exact ⟨by rw [HFU.out]; simp [f1], rfl⟩
              · have f1d : decide (P ≤ (ln : Int)) = false := decide_eq_false f1
                go_wp2
                go_meet
                case rel => exact ⟨by rw [HFU.out, f1d]; rfl, rfl⟩
            case rest =>
             as_aux_lemma =>
              obtain ⟨h19, hwc⟩ := hcut
              subst h19
              rw [hwc]
              clear hwc
              obtain ⟨v7, tv7, hr7, hF7⟩ := HA7.out
              have HR7 : Hid (RedP w7 b P 1000000 q v7 tv7 s') := hr7
              have hbw7 := LAt.lt hr7.pos
              clear hr7 hF7
              have HEND : Hid (∀ n8, EbR b P q w5 F0 (nowAt 0 xs (k + 1)) (k + 1) (n + 1) s' F6 (.slice (some ⟨g, off, none⟩) (ls.length + 1) cap2) (ls ++ [st.l]) (w7.drewN n8)) := by
                intro n8
                have hL0 := HR.out.llen
                have hold : ∀ z ∈ s.L, 0 ≤ z.n ∧ z.n < ((n + 1 : Nat) : Int) ∧ (ls ++ [st.l])[z.n.toNat]? = some z.l := fun z hz => by
                  obtain ⟨a1, a2, a3⟩ := HR.out.each z hz
                  refine ⟨a1, by omega, ?_⟩
                  rw [List.getElem?_append_left (by omega)]
                  exact a3
                refine ⟨HM.out.kept HA7.out (fun _ _ => rfl), HI6.out, by omega, Seg.drewN HL7.out _, by simp [hL0], HN7.out, fun z hz => ?_, fun j hj => ?_, HO7.out.drewN _⟩
                · rcases HPT.out.two with ⟨_, _, y, gy1, gy2, gL⟩ | ⟨_, gL⟩
                  · rw [gL] at hz
                    rcases List.mem_append.1 hz with hz | hz
                    · exact hold z hz
                    · simp at hz
                      subst hz
                      have e1 : z.n = (n : Int) := gy1
                      have e2 : z.l = st.l := gy2
                      rw [e1, e2]
                      refine ⟨by omega, by omega, ?_⟩
                      rw [Int.toNat_natCast, ← hL0]
                      simp
                  · rw [gL] at hz
                    exact hold z hz
                · rcases HF6.out j hj with h | h
                  · exact HR.out.fnew j h
                  · have := HR.out.ot.size
                    exact Or.inr (by omega)
              go_wp2_with (go_at_call 12; fail)
              refine (mean_any _ HR7.out.pos HOK.out).mono ?_
              rintro e w8 ⟨rfl, n8, hw8⟩
              subst hw8
              obtain ⟨mv, hmv⟩ : ∃ mv, meanR q s'.sum = mv := ⟨_, rfl⟩
              have HMV : Hid (meanR q s'.sum = mv) := hmv
              rw [hmv]
              clear hmv
              rcases HPT.out.two with ⟨g0, gf, y, gy1, gy2, gL⟩ | ⟨g1, gL⟩
              · have hful : full = false := by rw [← HFB.out]; exact gf
                have gy2' : y.l = st.l := gy2
                rw [g0, hful]
                rcases (show q.mrk = true ∨ q.mrk = false by cases q.mrk <;> simp) with hmk | hmk
                · rw [hmk] at x4
                  clear hmk
                  go_wp2
                  all_goals
                    go_meet
                    case rel => exact ⟨n + 1, s', F6, ls ++ [st.l], by first | rfl | (congr 1), by rw [gL]; simp [HLNN.out], by rw [gL, sumL_append, HSL.out]; simp only [sumL, gy2']; congr 1; omega, by rw [HMV.out], HEND.out _⟩
                · have hhi : decide (q.hi ≤ mv) = false := by
                    simp only [decide_eq_false_iff_not]
                    intro h
                    have := HPT.out.high (by rw [HMV.out]; exact h) hmk
                    omega
                  rw [hmk] at x4
                  clear hmk
                  go_wp2
                  all_goals
                    go_meet
                    case rel => exact ⟨n + 1, s', F6, ls ++ [st.l], by first | rfl | (congr 1), by rw [gL]; simp [HLNN.out], by rw [gL, sumL_append, HSL.out]; simp only [sumL, gy2']; congr 1; omega, by rw [HMV.out], HEND.out _⟩
              · rw [g1]
                rcases (show full = true ∨ full = false by cases full <;> simp) with hfl | hfl
                · rw [hfl]
                  rcases (show q.mrk = true ∨ q.mrk = false by cases q.mrk <;> simp) with hmk | hmk
                  all_goals
                    rw [hmk] at x4
                    clear hmk
                    go_wp2
                    all_goals
                      go_meet
                      case rel => exact ⟨n + 1, s', F6, ls ++ [st.l], by first | rfl | (congr 1), by rw [gL, HLNN.out], by rw [gL, HSL.out], by rw [HMV.out], HEND.out _⟩
                · have hlo : decide (mv < q.lo) = false := by
                    simp only [decide_eq_false_iff_not]
                    intro h
                    have := HPT.out.low (by rw [HMV.out]; exact h) g1
                    rw [HFB.out, hfl] at this
                    cases this
                  have hmk : q.mrk = false := by
                    cases hm : q.mrk with
                    | false => rfl
                    | true =>
                      have := HPT.out.mark hm g1
                      rw [HFB.out, hfl] at this
                      cases this
                  rw [hfl]
                  rw [hmk] at x4
                  clear hmk
                  go_wp2
                  all_goals
                    go_meet
                    case rel => exact ⟨n + 1, s', F6, ls ++ [st.l], by first | rfl | (congr 1), by rw [gL, HLNN.out], by rw [gL, HSL.out], by rw [HMV.out], HEND.out _⟩
          · have hw2 : (st.what == 0) = false := by simpa using hw0
            by_cases hw1 : st.what = 1
            · have hw3 : (st.what == 1) = true := by simpa using hw1
              clear hw0 hw1
              have HI6 : Hid ((RedM b P 1000000 q).inv (nowAt 0 xs (k + 1)) n { s with L := s.L.tail }) := (HM.out.iT (t := nowAt 0 xs k) st.lt HIN.out t3 t2 t4 (by omega)).1
              have HKP : Hid (∀ W : World, Ot F0 w5 W → W.cell? ⟨tb, tof + k * 7 + 1, none⟩ = some (.int .i64 st.lt)) := fun W hW => (HCS.out W hW).1.2.1
              have hsl := Fit.sum HIN.out.2.1
              have hls : ls.length ≤ 120 := by have := HR.out.llen; omega
              have HTK : Hid (∀ W : World, (∀ j : Nat, F j → W.heap[j]? = wr.heap[j]?) → Calls Try.prog 13 #[.pointer (some ⟨b, 0, none⟩), .int .i64 st.lt] W fun e w' => ∃ u F', e = .returned (.tuple #[.agg #[.int .i64 (hdOr s.L).a, .int .i64 (hdOr s.L).l, .int .i64 (hdOr s.L).f, .int .i64 (hdOr s.L).b, .int .i64 (hdOr s.L).m, .int .i64 (hdOr s.L).n], u, .bool (!s.L.isEmpty)]) ∧ Hs w' u [] ∧ (RedM b P 1000000 q).At w' F' { s with L := s.L.tail } ∧ (∀ k, F' k → F k ∨ W.heap.size ≤ k) ∧ (∀ k, u.ownBlock = some k → F k ∨ W.heap.size ≤ k) ∧ Ot F W w') := fun W hW => HM.out.cT (t := nowAt 0 xs k) (n := n) st.lt (HM.out.kept HR.out.pos hW) HIN.out t3 t2 t4 (by omega)
              have HEND : Hid (∀ (F6 : Nat → Prop) (w7 : World), (RedM b P 1000000 q).At w7 F6 { s with L := s.L.tail } → (∀ j, F6 j → F j ∨ wr.heap.size ≤ j) → Ot F wr w7 → EbR b P q w5 F0 (nowAt 0 xs (k + 1)) (k + 1) n { s with L := s.L.tail } F6 u16 ls w7) := by
                intro F6 w7 ha hf ho
                have hws := HR.out.ot.size
                refine ⟨ha, HI6.out, by omega, Seg.oth (S := F) HR.out.lens ho (fun j hj => (HR.out.lnew j hj).2), HR.out.llen, fun j hj => ⟨(HR.out.lnew j hj).1, fun hf' => ?_⟩, fun y hy => HR.out.each y (List.mem_of_mem_tail hy), fun j hj => ?_, HR.out.ot.trans' ho (fun j hj hlt => (HR.out.fnew j hj).resolve_right (by omega))⟩
                · rcases hf j hf' with h | h
                  · exact (HR.out.lnew j hj).2 h
                  · have := Seg.lt HR.out.lens hj; omega
                · rcases hf j hj with h | h
                  · exact HR.out.fnew j h
                  · exact Or.inr (by omega)
              have HFL : Hid (∀ j, F j → j < wr.heap.size) := HM.out.low HR.out.pos
              obtain ⟨sl, hsl'⟩ : ∃ sl, sumL s.L = sl := ⟨_, rfl⟩
              have HSL : Hid (sumL s.L = sl) := hsl'
              obtain ⟨ln, hln'⟩ : ∃ ln, s.L.length = ln := ⟨_, rfl⟩
              have HLNN : Hid (s.L.length = ln) := hln'
              have hsl2 : 0 ≤ sl ∧ sl ≤ 10000000 ∧ ln ≤ n := by rw [hsl'] at hsl; omega
              rw [hsl', hln']
              obtain ⟨okb, hokb⟩ : ∃ o, (!s.L.isEmpty) = o := ⟨_, rfl⟩
              obtain ⟨xh, hxh⟩ : ∃ o, hdOr s.L = o := ⟨_, rfl⟩
              have HOKT : Hid (okb = true → ∃ L', s.L = xh :: L') := by
                intro h
                cases hL : s.L with
                | nil => rw [← hokb, hL] at h; simp at h
                | cons y L' => exact ⟨L', by rw [← hxh, hL]; rfl⟩
              have HOKF : Hid (okb = false → s.L = []) := by
                intro h
                cases hL : s.L with
                | nil => rfl
                | cons y L' => rw [← hokb, hL] at h; simp at h
              rw [hokb, hxh] at HTK
              have HTK1 := HTK.out wr.drew (fun _ _ => rfl)
              have HTK2 := HTK.out (wr.alloc (.cells #[.int .i64 0, .int .i64 0, .int .i64 0, .int .i64 0, .int .i64 0, .int .i64 0] 41)).drew (fun j hj => Below.heap_alloc _ _ _ (HM.out.low HR.out.pos j hj))
              clear hsl hsl' hln' hokb hxh hll
              have htn1 : tb ≠ wr.heap.size := by omega
              have htn2 : ¬ wr.heap.size = tb := by omega
              have htn3 : ¬ tb = wr.heap.size := by omega
              go_upto_region 31 with (fail)
              go_cut [21, 22, 23] (fun pv _ ov wx => ∃ (xb : Nat) (F6 : Nat → Prop), pv = .pointer (some ⟨xb, 0, none⟩) ∧ ov = .bool okb ∧ wx.heap[xb]? = some (.cells #[.int .i64 xh.a, .int .i64 xh.l, .int .i64 xh.f, .int .i64 xh.b, .int .i64 xh.m, .int .i64 xh.n] 41 (0, 0)) ∧ (RedM b P 1000000 q).At wx F6 { s with L := s.L.tail } ∧ (∀ j, F6 j → F j ∨ wr.heap.size ≤ j) ∧ Ot F wr wx)
              case first =>
               as_aux_lemma =>
                go_region_held3 (fun W => W.cell? ⟨tb, tof + k * 7 + 1, none⟩ = some (.int .i64 st.lt)) (first | (with_reducible exact HKP.out _ HO6.out) | (with_reducible exact HKP.out _ HR.out.ot.drew) | go_keep) (first | (go_at_call 13; (with_reducible refine HTK1.mono ?_); rintro e w6 ⟨u6, F6, rfl, hu6, ha6, hf6, hn6, ho6⟩; have HOW : Hid (Ot F wr w6) := (Ot.drew (Ot.refl F wr)).trans ho6; have HO6 : Hid (Ot F0 w5 w6) := HR.out.ot.trans' HOW.out (fun j hj hlt => (HR.out.fnew j hj).resolve_right (by omega)); have e1 := HKP.out w6 HO6.out; have htb6 := (HCS.out w6 HO6.out).2.2.1; have HB6 : Hid (wr.heap.size ≤ w6.heap.size) := HOW.out.size) | (go_at_call 13; (with_reducible refine HTK2.mono ?_); rintro e w6 ⟨u6, F6, rfl, hu6, ha6, hf6, hn6, ho6⟩; have HOW : Hid (Ot F wr w6) := (Ot.drew (Ot.alloc (Ot.refl F wr) _)).trans ho6; have HO6 : Hid (Ot F0 w5 w6) := HR.out.ot.trans' HOW.out (fun j hj hlt => (HR.out.fnew j hj).resolve_right (by omega)); have e1 := HKP.out w6 HO6.out; have htb6 := (HCS.out w6 HO6.out).2.2.1; have hz6 := ot_zero HFL.out ho6; obtain ⟨⟨z0, z1, z2, z3, z4, z5⟩, y0, y1, y2, y3, y4, y5⟩ := six hz6; have hB6 := lt_of_block hz6; have hne6 : ∀ j, F6 j → j ≠ wr.heap.size := (fun j hj e => by { rcases hf6 j hj with h | h; have := HFL.out j h; omega; have h' : (wr.alloc (.cells #[.int .i64 0, .int .i64 0, .int .i64 0, .int .i64 0, .int .i64 0, .int .i64 0] 41)).heap.size ≤ j := h; simp at h'; omega })))
                · have HF6 : Hid (∀ j, F6 j → F j ∨ wr.heap.size ≤ j) := fun j hj => hf6 j hj
                  have HA6 : Hid ((RedM b P 1000000 q).At w6 F6 { s with L := s.L.tail }) := ha6
                  have HL6 : Hid (∀ j, F6 j → j < w6.heap.size) := HM.out.low ha6
                  clear ha6 hu6 hn6 hf6 ho6
                  go_wp2
                  go_meet
                  case rel => exact ⟨w6.heap.size, F6, rfl, rfl, new_block _ _, HM.out.kept HA6.out (fun j hj => Below.heap_alloc _ _ _ (HL6.out j hj)), HF6.out, Ot.alloc HOW.out _⟩
                · have HF6 : Hid (∀ j, F6 j → F j ∨ wr.heap.size ≤ j) := fun j hj => by
                    rcases hf6 j hj with h | h
                    · exact Or.inl h
                    · refine Or.inr (Nat.le_trans ?_ h)
                      show wr.heap.size ≤ (wr.alloc _).heap.size
                      simp
                  have HA6 : Hid ((RedM b P 1000000 q).At w6 F6 { s with L := s.L.tail }) := ha6
                  have HZ6 : Hid (w6.heap[wr.heap.size]? = some (.cells #[.int .i64 0, .int .i64 0, .int .i64 0, .int .i64 0, .int .i64 0, .int .i64 0] 41 (0, 0))) := hz6
                  have HNE : Hid (∀ j, F6 j → j ≠ wr.heap.size) := hne6
                  clear ha6 hu6 hn6 hf6 ho6 hz6 hne6
                  go_wp2
                  go_meet
                  case rel => exact ⟨wr.heap.size, F6, rfl, rfl, six_set HZ6.out _ _ _ _ _ _, HM.out.kept HA6.out (fun j hj => heap_six (HNE.out j hj) rfl), HF6.out, ot_sixs HOW.out (Nat.le_refl _)⟩
              case rest =>
               as_aux_lemma =>
                obtain ⟨xb, F6, rfl, rfl, hxb, ha6, hf6, ho6⟩ := hcut
                have HA6 : Hid ((RedM b P 1000000 q).At wc F6 { s with L := s.L.tail }) := ha6
                have HF6 : Hid (∀ j, F6 j → F j ∨ wr.heap.size ≤ j) := hf6
                have HOW : Hid (Ot F wr wc) := ho6
                have HLN6 : Hid (Ins wc u16 ls) := Seg.oth (S := F) HR.out.lens HOW.out (fun j hj => (HR.out.lnew j hj).2)
                obtain ⟨⟨z0, z1, z2, z3, z4, z5⟩, y0, y1, y2, y3, y4, y5⟩ := six hxb
                have hB6 := lt_of_block hxb
                clear ha6 hf6 ho6 hxb y0 y1 y2 y3 y4 y5 c0 c1 c2 c3 c4 c5 c6 x0 x1 x4
                rcases (show okb = true ∨ okb = false by cases okb <;> simp) with hk0 | hk0
                · obtain ⟨L', hL'⟩ := HOKT.out hk0
                  have HL' : Hid (s.L = xh :: L') := hL'
                  obtain ⟨w1', w2', w3'⟩ := HR.out.each xh (by rw [hL']; simp)
                  have hxl := HIN.out.2.1 xh (by rw [hL']; simp)
                  obtain ⟨j, hj⟩ : ∃ j : Nat, xh.n = j := ⟨xh.n.toNat, by omega⟩
                  rw [hj, Int.toNat_natCast] at w3'
                  rw [hj] at w1' w2' z5
                  have hjl : j < ls.length := (List.getElem?_eq_some_iff.1 w3').1
                  obtain ⟨lb, lof, lcap, e2, hlb, hlc, _⟩ := HLN6.out.at w3'
                  subst e2
                  have hl1 : 1 ≤ ln ∧ xh.l ≤ sl := by
                    have h1 := HLNN.out
                    have h2 := HSL.out
                    have h3 := Fit.sum (L := L') (fun y hy => HIN.out.2.1 y (by rw [hL']; simp [hy]))
                    rw [hL'] at h1 h2
                    simp only [List.length_cons, sumL] at h1 h2
                    omega
                  rw [hk0]
                  clear hL' w3' hk0 hj
                  go_wp2
                  go_meet
                  case rel =>
                    exact ⟨n, { s with L := s.L.tail }, F6, ls, rfl, by congr 1; have h1 := HLNN.out; rw [HL'.out] at h1 ⊢; simp only [List.length_cons, List.tail_cons] at h1 ⊢; omega, by congr 1; have h1 := HSL.out; rw [HL'.out] at h1 ⊢; simp only [sumL, List.tail_cons] at h1 ⊢; omega, rfl, HEND.out F6 _ HA6.out HF6.out HOW.out⟩
                · have HL0 : Hid (s.L = []) := HOKF.out hk0
                  rw [hk0]
                  clear hk0
                  go_wp2
                  go_meet
                  case rel =>
                    exact ⟨n, { s with L := s.L.tail }, F6, ls, rfl, by congr 1; have h1 := HLNN.out; rw [HL0.out] at h1 ⊢; simp only [List.length_nil, List.tail_nil] at h1 ⊢; omega, by congr 1; have h1 := HSL.out; rw [HL0.out] at h1 ⊢; simp only [sumL, List.tail_nil] at h1 ⊢; omega, rfl, HEND.out F6 _ HA6.out HF6.out HOW.out⟩
            · have hw3 : (st.what == 1) = false := by simpa using hw1
              clear hw0 hw1
              go_wp2
              go_meet
              case rel => exact ⟨n, s, F, ls, rfl, rfl, rfl, rfl, HR.out.pos, HIN.out, by omega, HR.out.lens, HR.out.llen, HR.out.lnew, HR.out.each, HR.out.fnew, HR.out.ot⟩
        case rest =>
          obtain ⟨n', s', F', ls', rfl, rfl, rfl, rfl, hr⟩ := hcut
          have HR2 : Hid (EbR b P q w5 F0 (nowAt 0 xs (k + 1)) (k + 1) n' s' F' u16 ls' wc) := hr
          obtain ⟨v', tv', hrp, hFv⟩ := hr.pos
          have HRP : Hid (∀ j, RedP (wc.drewN j) b P 1000000 q v' tv' s') := fun j => hrp.drewN j
          have HRP0 : Hid (RedP wc b P 1000000 q v' tv' s') := hrp
          have hbw := LAt.lt hrp.pos
          clear hr hrp hFv c0 c1 c2 c3 c4 c5 c6 x0 x1 x4 htb hwb
          go_wp2_with (first | (go_at_call 14; refine (len_any _ HRP0.out.pos).mono ?_; rintro e w8 ⟨rfl, hw8⟩; subst hw8) | (go_at_call 15; refine (bytes_any _ HRP0.out.pos).mono ?_; rintro e w8 ⟨rfl, hw8⟩; subst hw8) | (go_at_call 12; refine (mean_any _ HRP0.out.pos HOK.out).mono ?_; rintro e w9 ⟨rfl, n9, hw9⟩; subst hw9))
          go_roundw
          case rel => exact ⟨k + 1, n', s', F', ls', by omega, by go_num, rfl, rfl, rfl, rfl, HM.out.kept HR2.out.pos (fun _ _ => rfl), HR2.out.inv, HR2.out.nk, Seg.drewN HR2.out.lens _, HR2.out.llen, HR2.out.lnew, HR2.out.each, HR2.out.fnew, HR2.out.ot.drewN _⟩
          case measure => simp [intOf]; omega
      · obtain rfl : k = N := by omega
        go_wp2
        go_ret
        refine ⟨rfl, HB5.out.trans (HR.out.ot.below HB5.out.size (fun j hj => ?_))⟩
        have := (HF0.out j hj).1
        omega
  · clear HIR HPN
    have HNO : Hid (∀ W : World, Calls Try.prog 8 #[.agg #[.int .i64 q.lo, .int .i64 q.hi, .int .i64 q.often, .int .i64 q.sl, .bool q.mrk], .int .i64 P, .int .i64 1000000, .slice px m pcap] W fun e w' => e = .returned (.tuple #[.pointer none, .iface 71 (.int .i64 2)]) ∧ Below W.heap.size W w') := fun W => newRed_setup q P 1000000 W hok hP1.1 (by omega) (by decide) (by decide)
    clear hok
    go_enter Try.func3, Try.ntmps3
    go_wp2_with (go_at_call 7; fail)
    refine (HPP _).mono ?_
    rintro e w0 ⟨rfl, hw0⟩
    subst hw0
    go_wp2_with (go_at_call 8; fail)
    refine (HNO.out _).mono ?_
    rintro e w1 ⟨rfl, hb1⟩
    go_wp2_with (go_at_call 9; fail)
    refine (first_all _).mono ?_
    rintro e w2 ⟨rfl, hb2⟩
    go_wp2_with (go_at_call 9; fail)
    refine (first_all _).mono ?_
    rintro e w3 ⟨rfl, hb3⟩
    go_wp2
    go_ret
    have h1 : Below w.heap.size w w1 := (below_alloc_ (Below.refl _ _) _).trans (hb1.mono (by simp))
    have h2 : Below w.heap.size w w2 := h1.trans (hb2.mono h1.size)
    exact ⟨rfl, h2.trans (hb3.mono h2.size)⟩
end Go.Proofs.Ytddikjhpacdciaa
