/-
  fair.Hashed's Put. Conditions: few packets, none of them long; the lists and the turns agree.
-/
import Derived.Test.YtejomfmbhifeaaaDoorHf
namespace Go.Proofs.YtejomfmbhifeaaaDoor
open Go.RowKit Go.Extern.Stop Go.Stop Go.Extern

/-- A packet is put into its list. -/
def intoH (p : HaC) (s : HaS) (x : Hd) : HaS := { fl := updF s.fl (whereN p x.f).toNat (s.fl (whereN p x.f).toNat ++ [x]), tn := if (s.fl (whereN p x.f).toNat).isEmpty then s.tn ++ [whereN p x.f] else s.tn }
def putH (p : HaC) (s : HaS) (x : Hd) : HaS × List Hd := if ((allF (intoH p s x).fl 64).length : Int) ≤ p.room then (intoH p s x, []) else ((cutH (intoH p s x)).1, [(cutH (intoH p s x)).2])
set_option maxRecDepth 20000 in
set_option maxHeartbeats 4000000 in
theorem hput_any {b : Nat} {p : HaC} {C : Nat → Value} {vs : Nat → Value} {tv : Value} {s : HaS} (now : Int) (x : Hd) (w : World) (h : HaP w b p C vs tv s) (hm0 : 1 ≤ p.many) (hm1 : p.many ≤ 64) (hs0 : 0 ≤ p.salt) (hs1 : p.salt ≤ 1000000) (hf0 : 0 ≤ x.f) (hf1 : x.f ≤ 1000000) (hl : s.tn.length ≤ 900) (hF : Fit (s.fl (whereN p x.f).toNat ++ [x])) (hFa : Fit (allF (intoH p s x).fl 64))
    (hne : (intoH p s x).fl (longK (intoH p s x).fl 64) ≠ []) (hin : (longK (intoH p s x).fl 64 : Int) ∈ (intoH p s x).tn) (hnd : (intoH p s x).tn.Nodup) (hFF : ∀ f, f < 64 → Fit ((intoH p s x).fl f)) :
    Calls Tryd.prog 122 #[.pointer (some ⟨b, 0, none⟩), .int .i64 now, x.val] w fun e w' => ∃ u C' vs' tv', e = .returned u ∧ Hs w' u (putH p s x).2 ∧ (∀ k, u.ownBlock = some k → w.heap.size ≤ k) ∧ HaO w b p vs tv (putH p s x).1 w' C' vs' tv' := by
  have H : Hid (HaP w b p C vs tv s) := h
  have hb := h.blk.lt
  have HLW : Hid (∀ k, HaF b vs tv k → k < w.heap.size) := fun k hk => h.low hk
  have hwb := whereN_bd hm0 x.f
  obtain ⟨f, hf⟩ : ∃ f : Nat, whereN p x.f = f := ⟨(whereN p x.f).toNat, by omega⟩
  have hf64 : f < 64 := by omega
  have HIN : Hid (intoH p s x = { fl := updF s.fl f (s.fl f ++ [x]), tn := if (s.fl f).isEmpty then s.tn ++ [(f : Int)] else s.tn }) := by show _ = _; unfold intoH; rw [hf, Int.toNat_natCast]
  rw [hf, Int.toNat_natCast] at hF
  have HFI : Hid (Fit (s.fl f ++ [x])) := hF
  have HWH : Hid (∀ W : World, HaP W b p C vs tv s → Calls Tryd.prog 22 #[.pointer (some ⟨b, 0, none⟩), .int .i64 x.f] W fun e w' => e = .returned (.int .i64 f) ∧ ∃ n, w' = W.drewN n) := fun W hW => by
    have := where_any x.f W hW hm0 hm1 hs0 hs1 hf0 hf1
    rw [hf] at this
    exact this
  have HLAST : Hid (∀ (W : World) (C1 : Nat → Value) (vs1 : Nat → Value) (tv1 : Value), HaP W b p C1 vs1 tv1 (intoH p s x) → (Calls Tryd.prog 121 #[.pointer (some ⟨b, 0, none⟩)] W fun e w' => e = .returned (.int .i64 (allF (intoH p s x).fl 64).length) ∧ w' = W) ∧ Calls Tryd.prog 125 #[.pointer (some ⟨b, 0, none⟩)] W fun e w' => e = .returned (cutH (intoH p s x)).2.val ∧ ∃ C' vs' tv', HaO W b p vs1 tv1 (cutH (intoH p s x)).1 w' C' vs' tv') := by
    intro W C1 vs1 tv1 hW
    refine ⟨hlen_any W hW hFa, hcut_any W hW hne hin hnd ?_ hFF⟩
    rw [HIN.out]
    show (if (s.fl f).isEmpty then s.tn ++ [(f : Int)] else s.tn).length ≤ 1000
    split
    · simp; omega
    · omega
  have HPU : Hid (putH p s x = if ((allF (intoH p s x).fl 64).length : Int) ≤ p.room then (intoH p s x, []) else ((cutH (intoH p s x)).1, [(cutH (intoH p s x)).2])) := rfl
  clear h hF hFa hne hin hnd hFF hwb
  obtain ⟨W0, hW0⟩ : ∃ W0, w.alloc (.cells #[.int .i64 x.a, .int .i64 x.l, .int .i64 x.f, .int .i64 x.b, .int .i64 x.m, .int .i64 x.n] 124) = W0 := ⟨_, rfl⟩
  have HP0 : Hid (HaO w b p vs tv s W0 C vs tv) := by
    refine ⟨?_, fun _ hk => Or.inl hk, ?_⟩
    · rw [← hW0]; exact H.out.al _
    · rw [← hW0]; exact Ot.alloc (Ot.refl _ _) _
  have hs0' : W0.heap.size = w.heap.size + 1 := by rw [← hW0]; simp
  have HX0 : Hid (W0.heap[w.heap.size]? = some (.cells #[.int .i64 x.a, .int .i64 x.l, .int .i64 x.f, .int .i64 x.b, .int .i64 x.m, .int .i64 x.n] 124 (0, 0))) := by show _ = _; rw [← hW0]; exact new_block w _
  obtain ⟨⟨z0, z1, z2, z3, z4, z5⟩, y0, y1, y2, y3, y4, y5⟩ := six HX0.out
  have hb0 : b < W0.heap.size := by omega
  have hw0 : w.heap.size < W0.heap.size := by omega
  have HLN : Hid (∀ n, Calls Tryd.prog 71 #[.pointer (some ⟨b, 3 + f * 2, none⟩)] (W0.drewN n) fun e w' => e = .returned (.int .i64 (s.fl f).length) ∧ w' = W0.drewN n) := fun n => lenO_any _ ((HP0.out.pos.drewN n).list hf64)
  rw [Hd.val_eq x]
  go_enter Tryd.func122, Tryd.ntmps122
  go_wp2_with (go_at_call 22; fail)
  refine (HWH.out _ HP0.out.pos).mono ?_
  rintro e w1 ⟨rfl, n1, hw1⟩
  subst hw1
  clear hW0
  go_upto_if 19 with (go_at_call 71; refine (HLN.out _).mono ?_; rintro e w2 ⟨rfl, hw2⟩; subst hw2)
  have HNR : Hid (¬ HaF b vs tv w.heap.size) := fun hk => by have := HLW.out _ hk; omega
  have HJ : Hid (Calls Tryd.prog 105 #[.pointer (some ⟨b, 131, none⟩), .int .i64 f] (W0.drewN n1) fun e w' => e = .returned (.tuple #[]) ∧ ∃ tv', TPost (W0.drewN n1) b 132 119 C 131 tv (s.tn ++ [(f : Int)]) w' tv') := join_any (f : Int) _ (HP0.out.pos.drewN n1).turns (by omega)
  have hO0 : Ot (HaF b vs tv) w (W0.drewN n1) := HP0.out.ot.drewN n1
  have HO0 : Hid (HaO w b p vs tv s (W0.drewN n1) C vs tv) := ⟨HP0.out.pos.drewN n1, HP0.out.own, hO0⟩
  have hrs : b < (W0.drewN n1).heap.size := hb0
  obtain ⟨ln, hln⟩ : ∃ ln, (s.fl f).length = ln := ⟨_, rfl⟩
  have HLL : Hid ((s.fl f).length = ln) := hln
  rw [hln]
  clear hln hO0
  go_cut [] (fun wx => ∃ C1 tv1, HaO w b p vs tv { s with tn := if (s.fl f).isEmpty then s.tn ++ [(f : Int)] else s.tn } wx C1 vs tv1 ∧ wx.heap[w.heap.size]? = some (.cells #[.int .i64 x.a, .int .i64 x.l, .int .i64 x.f, .int .i64 x.b, .int .i64 x.m, .int .i64 x.n] 124 (0, 0)))
  case first =>
    rcases Nat.eq_zero_or_pos ln with h0 | h0
    · have he : (s.fl f).isEmpty = true := by rw [List.isEmpty_iff]; exact List.eq_nil_of_length_eq_zero (by rw [HLL.out]; exact h0)
      have HE : Hid ((s.fl f).isEmpty = true) := he
      subst h0
      clear he
      go_wp2_with (go_at_call 105; fail)
      refine HJ.out.mono ?_
      rintro e w2 ⟨rfl, tv2, hp2⟩
      have h1 := hao_turned HO0.out.pos hp2
      have HRL : Hid (∃ C1 tv1, HaO w b p vs tv { s with tn := if (s.fl f).isEmpty then s.tn ++ [(f : Int)] else s.tn } w2 C1 vs tv1 ∧ w2.heap[w.heap.size]? = some (.cells #[.int .i64 x.a, .int .i64 x.l, .int .i64 x.f, .int .i64 x.b, .int .i64 x.m, .int .i64 x.n] 124 (0, 0))) := by
        rw [HE.out]
        exact ⟨_, _, HO0.out.trans h1, (h1.ot.block _ hw0 HNR.out).trans HX0.out⟩
      go_wp2
      go_meet
      case rel => exact HRL.out
    · have he : (s.fl f).isEmpty = false := by
        cases hs : s.fl f with
        | nil => have := HLL.out; rw [hs] at this; simp at this; omega
        | cons y l => rfl
      have HRL : Hid (∃ C1 tv1, HaO w b p vs tv { s with tn := if (s.fl f).isEmpty then s.tn ++ [(f : Int)] else s.tn } (W0.drewN n1) C1 vs tv1 ∧ (W0.drewN n1).heap[w.heap.size]? = some (.cells #[.int .i64 x.a, .int .i64 x.l, .int .i64 x.f, .int .i64 x.b, .int .i64 x.m, .int .i64 x.n] 124 (0, 0))) := by
        rw [he]
        exact ⟨_, _, HO0.out, HX0.out⟩
      have h0b : ((ln : Int) == 0) = false := by simp; omega
      clear he
      go_wp2
      go_meet
      case rel => exact HRL.out
  case rest =>
    obtain ⟨C1, tv1, hR1, hx1⟩ := hcut
    have HR1 : Hid (HaO w b p vs tv { s with tn := if (s.fl f).isEmpty then s.tn ++ [(f : Int)] else s.tn } wc C1 vs tv1) := hR1
    have HX1 : Hid (wc.heap[w.heap.size]? = some (.cells #[.int .i64 x.a, .int .i64 x.l, .int .i64 x.f, .int .i64 x.b, .int .i64 x.m, .int .i64 x.n] 124 (0, 0))) := hx1
    clear z0 z1 z2 z3 z4 z5 y0 y1 y2 y3 y4 y5
    obtain ⟨⟨z0, z1, z2, z3, z4, z5⟩, y0, y1, y2, y3, y4, y5⟩ := six hx1
    have hbc := hR1.pos.blk.lt
    have hwc := lt_of_block hx1
    have HAD : Hid (∀ n, Calls Tryd.prog 80 #[.pointer (some ⟨b, 3 + f * 2, none⟩), .agg #[.int .i64 x.a, .int .i64 x.l, .int .i64 x.f, .int .i64 x.b, .int .i64 x.m, .int .i64 x.n]] (wc.drewN n) fun e w' => e = .returned (.tuple #[]) ∧ ∃ C' v', HaO w b p vs tv (intoH p s x) w' C' (updF vs f v') tv1) := by
      intro n
      have h1 := addO_any x (wc.drewN n) ((HR1.out.pos.drewN n).list hf64) HFI.out
      rw [Hd.val_eq x] at h1
      refine h1.mono ?_
      rintro e w' ⟨rfl, v', hl', hk', ho'⟩
      rw [HIN.out]
      exact ⟨rfl, _, v', HaO.trans (w1 := wc.drewN n) ⟨HR1.out.pos.drewN n, HR1.out.own, HR1.out.ot.drewN n⟩ (hao_listed (HR1.out.pos.drewN n) hf64 hl' hk' ho')⟩
    clear hR1 hx1
    go_wp2
    go_region_with (go_at_call 80; refine Calls.mono (by exact HAD.out _) ?_; rintro e w3 ⟨rfl, C3, v3, hR3⟩)
    all_goals
      have HR3 : Hid (HaO w b p vs tv (intoH p s x) w3 C3 (updF vs f v3) tv1) := hR3
      have HLQ : Hid (∀ n, Calls Tryd.prog 121 #[.pointer (some ⟨b, 0, none⟩)] (w3.drewN n) fun e w' => e = .returned (.int .i64 (allF (intoH p s x).fl 64).length) ∧ w' = w3.drewN n) := fun n => (HLAST.out _ _ _ _ (hR3.pos.drewN n)).1
      have HCQ : Hid (∀ n, Calls Tryd.prog 125 #[.pointer (some ⟨b, 0, none⟩)] (w3.drewN n) fun e w' => e = .returned (cutH (intoH p s x)).2.val ∧ ∃ C' vs' tv', HaO (w3.drewN n) b p (updF vs f v3) tv1 (cutH (intoH p s x)).1 w' C' vs' tv') := fun n => (HLAST.out _ _ _ _ (hR3.pos.drewN n)).2
      obtain ⟨e0, e1, e2⟩ := hR3.pos.heads
      have hb3 := hR3.pos.blk.lt
      have HSZ : Hid (w.heap.size ≤ w3.heap.size) := hR3.ot.size
      clear hR3
      obtain ⟨N, hN⟩ : ∃ N, (allF (intoH p s x).fl 64).length = N := ⟨_, rfl⟩
      rw [hN] at HLQ HPU
      clear hN
      obtain ⟨K, hK⟩ : ∃ K, cutH (intoH p s x) = K := ⟨_, rfl⟩
      rw [hK] at HCQ HPU
      clear hK
      obtain ⟨sK, xK⟩ := K
      by_cases hrm : (N : Int) ≤ p.room
      · have o1 : decide ((N : Int) ≤ p.room) = true := decide_eq_true hrm
        rw [if_pos hrm] at HPU
        go_wp2
        go_quiet ((go_at_call 121; refine (HLQ.out _).mono ?_; rintro e w' ⟨rfl, rfl⟩; exact ⟨rfl, _, rfl⟩))
        go_wp2
        go_ret
        rw [HPU.out]
        have hT : ∀ n, Hs (w3.drewN n) (.slice none 0 0) ([] : List Hd) ∧ (∀ k, (Value.slice none 0 0).ownBlock = some k → w.heap.size ≤ k) ∧ HaO w b p vs tv (intoH p s x) (w3.drewN n) C3 (updF vs f v3) tv1 := fun n => ⟨Hs.nil _, fun k hk => by simp [Value.ownBlock] at hk, HR3.out.pos.drewN n, HR3.out.own, HR3.out.ot.drewN n⟩
        first
        | exact ⟨_, C3, _, tv1, rfl, hT _⟩
        | exact ⟨_, rfl, (hT _).1, (hT _).2.1, C3, _, tv1, (hT _).2.2⟩
      · have o1 : decide ((N : Int) ≤ p.room) = false := decide_eq_false hrm
        rw [if_neg hrm] at HPU
        go_wp2
        go_quiet ((go_at_call 121; refine (HLQ.out _).mono ?_; rintro e w' ⟨rfl, rfl⟩; exact ⟨rfl, _, rfl⟩))
        go_wp2_with (go_at_call 125; fail)
        refine (HCQ.out _).mono ?_
        rintro e w5 ⟨rfl, C5, vs5, tv5, hR5⟩
        have hR6 := HaO.trans (w1 := w3.drewN _) ⟨HR3.out.pos.drewN _, HR3.out.own, HR3.out.ot.drewN _⟩ hR5
        have HR6 : Hid (HaO w b p vs tv sK w5 C5 vs5 tv5) := hR6
        have hs5 := hR6.ot.size
        rw [Hd.val_eq xK]
        go_wp2
        go_ret
        rw [HPU.out]
        have hT : Hs (w5.alloc (.cells #[.int .i64 xK.a, .int .i64 xK.l, .int .i64 xK.f, .int .i64 xK.b, .int .i64 xK.m, .int .i64 xK.n] 124)) (.slice (some ⟨w5.heap.size, 0, none⟩) 1 1) [xK] ∧ (∀ k, (Value.slice (some ⟨w5.heap.size, 0, none⟩) 1 1).ownBlock = some k → w.heap.size ≤ k) ∧ HaO w b p vs tv sK (w5.alloc (.cells #[.int .i64 xK.a, .int .i64 xK.l, .int .i64 xK.f, .int .i64 xK.b, .int .i64 xK.m, .int .i64 xK.n] 124)) C5 vs5 tv5 := by
          refine ⟨Hs.one (new_block_ rfl), fun k hk => ?_, HR6.out.pos.al _, HR6.out.own, HR6.out.ot.alloc _⟩
          simp [Value.ownBlock] at hk
          omega
        first
        | exact ⟨_, C5, vs5, tv5, rfl, hT⟩
        | exact ⟨_, rfl, hT.1, hT.2.1, C5, vs5, tv5, hT.2.2⟩
end Go.Proofs.YtejomfmbhifeaaaDoor
