/-
  fair.Rounds: what Take does. Conditions: they lie in memory; numbers within bounds.
  fair.Rounds: what Put does. Conditions: they lie in memory; the packet may be; numbers within bounds.
  fair.Rounds: what Len, Bytes, When and Credit tell. Conditions: they lie in memory; few packets.
-/
import Derived.Test.YtfakjedolecdcaaGreatDoorU31
namespace Go.Proofs.YtfakjedolecdcaaGreatDoor
open Go.RowKit Go.Extern.Stop Go.Stop Go.Extern

theorem rno_refl {w : World} {b : Nat} {room : Int} {q : Nat → Int} {C : Nat → Value} {vs : Nat → Value} {tv : Value} {s : RnS} (h : RnP w b room q C vs tv s) : RnO w b room q vs tv s w C vs tv := ⟨h, fun _ hk => Or.inl hk, Ot.refl _ _⟩
theorem rno_below {w w1 w2 : World} {b : Nat} {room : Int} {q : Nat → Int} {C : Nat → Value} {vs vs1 : Nat → Value} {tv tv1 : Value} {s : RnS} (h : RnO w b room q vs tv s w1 C vs1 tv1) (hb : Below w1.heap.size w1 w2) : RnO w b room q vs tv s w2 C vs1 tv1 := ⟨h.pos.below hb, h.own, h.ot.trans (Ot.of_below hb)⟩
theorem rno_b {w w' : World} {b : Nat} {room : Int} {q : Nat → Int} {C' : Nat → Value} {vs : Nat → Value} {tv : Value} {s' : RnS} (h' : RnP w' b room q C' vs tv s') (ho : Ot (· = b) w w') : RnO w b room q vs tv s' w' C' vs tv := ⟨h', fun _ hk => Or.inl hk, ho.mono (fun _ _ e => Or.inl e)⟩
/-- A round of Take. -/
structure TkR (q : Nat → Int) (s : RnS) (w : World) (b : Nat) (room : Int) (vs : Nat → Value) (tv : Value) (s1 : RnS) (C1 : Nat → Value) (vs1 : Nat → Value) (tv1 : Value) (r : Nat) (wr : World) : Prop where
  same : takeW q s1 = takeW q s
  inv : RnI q s1
  pos : RnO w b room q vs tv s1 wr C1 vs1 tv1
  res : wr.heap[r]? = some (.cells #[.int .i64 0, .int .i64 0, .int .i64 0, .int .i64 0, .int .i64 0, .int .i64 0] 76 (0, 0))
set_option maxRecDepth 20000 in
set_option maxHeartbeats 8000000 in
theorem rtk_any {b : Nat} {room : Int} {q : Nat → Int} {C : Nat → Value} {vs : Nat → Value} {tv : Value} {s : RnS} (now : Int) (w : World) (h : RnP w b room q C vs tv s) (hI : RnI q s) :
    Calls Tryz.prog 181 #[.pointer (some ⟨b, 0, none⟩), .int .i64 now] w fun e w' => e = .returned (.tuple #[(takeW q s).2.2.1.val, .slice none 0 0, .bool (takeW q s).2.2.2]) ∧ ∃ C' vs' tv', RnO w b room q vs tv (takeW q s).1 w' C' vs' tv' := by
  have H : Hid (RnP w b room q C vs tv s) := h
  have hb := h.blk.lt
  have hV := Hd.val_eq
  have HI : Hid (RnI q s) := hI
  have HLW : Hid (∀ k, RnF b vs tv k → k < w.heap.size) := fun k hk => h.low hk
  clear h hI
  obtain ⟨W0, hW0⟩ : ∃ W0, w.alloc (.cells #[.int .i64 0, .int .i64 0, .int .i64 0, .int .i64 0, .int .i64 0, .int .i64 0] 76) = W0 := ⟨_, rfl⟩
  have HP0 : Hid (RnP W0 b room q C vs tv s) := by show RnP _ _ _ _ _ _ _ _; rw [← hW0]; exact H.out.al _
  have hs0 : W0.heap.size = w.heap.size + 1 := by rw [← hW0]; simp
  have HZ0 : Hid (W0.heap[w.heap.size]? = some (.cells #[.int .i64 0, .int .i64 0, .int .i64 0, .int .i64 0, .int .i64 0, .int .i64 0] 76 (0, 0))) := by show _ = _; rw [← hW0]; exact new_block w _
  have HO0 : Hid (Ot (RnF b vs tv) w W0) := by show Ot _ _ _; rw [← hW0]; exact Ot.alloc (Ot.refl _ _) _
  have HEND : Hid (∀ (s' : RnS) (W : World) (C1 : Nat → Value) (vs1 : Nat → Value) (tv1 : Value) (a0 a1 a2 a3 a4 a5 : Value), RnO W0 b room q vs tv s' W C1 vs1 tv1 → RnO w b room q vs tv s' ((((((W.setCell ⟨w.heap.size, 0, none⟩ a0).setCell ⟨w.heap.size, 1, none⟩ a1).setCell ⟨w.heap.size, 2, none⟩ a2).setCell ⟨w.heap.size, 3, none⟩ a3).setCell ⟨w.heap.size, 4, none⟩ a4).setCell ⟨w.heap.size, 5, none⟩ a5) C1 vs1 tv1) := by
    intro s' W C1 vs1 tv1 a0 a1 a2 a3 a4 a5 hR
    have hnr : ¬ RnF b vs1 tv1 w.heap.size := by
      intro hk
      rcases hR.own _ hk with h | h
      · have := HLW.out _ h; omega
      · omega
    refine ⟨(((((hR.pos.setO hnr _).setO hnr _).setO hnr _).setO hnr _).setO hnr _).setO hnr _, fun k hk => ?_, ?_⟩
    · rcases hR.own k hk with h | h
      · exact Or.inl h
      · exact Or.inr (by omega)
    · have hO : Ot (RnF b vs tv) w W := HO0.out.trans hR.ot
      repeat' (first | with_reducible exact hO | with_reducible refine Ot.setCell ?_ (Or.inr (Nat.le_refl _)) _)
  go_enter Tryz.func181, Tryz.ntmps181
  go_wp2
  clear hW0
  go_loopg [7] (mu s + 1) (fun k _ wr => ∃ s1 C1 vs1 tv1, mu s1 < k ∧ TkR q s W0 b room vs tv s1 C1 vs1 tv1 w.heap.size wr)
  case atStart => exact ⟨s, C, vs, tv, Nat.lt_succ_self _, rfl, HI.out, rno_refl HP0.out, HZ0.out⟩
  case round =>
    obtain ⟨s1, C1, vs1, tv1, hmu, hr⟩ := hrel
    have HR : Hid (TkR q s W0 b room vs tv s1 C1 vs1 tv1 w.heap.size wr) := hr
    obtain ⟨⟨c0, c65, c66⟩, f65, f66⟩ := hr.pos.pos.cells
    obtain ⟨⟨z0, z1, z2, z3, z4, z5⟩, y0, y1, y2, y3, y4, y5⟩ := six hr.res
    have hbr := hr.pos.pos.blk.lt
    have hwr := lt_of_block hr.res
    have HFI := tfirst_any wr hr.pos.pos.trow
    clear hr
    cases ht : s1.tn with
    | nil =>
      rw [ht] at HFI
      have HT : Hid (takeW q s = (s1, [], hd0, false)) := by show _ = _; rw [← HR.out.same, takeW_nil ht]
      go_wp2_with (go_at_call 170; refine HFI.mono ?_; rintro e w2 ⟨rfl, hw2⟩; subst hw2)
      (try simp only [Exit.inBlock, Exit.then])
      rw [HT.out]
      refine bodyPost_ret (v := .tuple #[hd0.val, .slice none 0 0, .bool false]) (ret_held2 rfl rfl (six_set HR.out.res _ _ _ _ _ _) rfl rfl) rfl ⟨rfl, C1, vs1, tv1, HEND.out _ _ _ _ _ _ _ _ _ _ _ HR.out.pos⟩
    | cons m B =>
      rw [ht] at HFI
      have hm := HR.out.inv.tin m (by rw [ht]; simp)
      obtain ⟨f, hf⟩ : ∃ f : Nat, m = f := ⟨m.toNat, by omega⟩
      subst hf
      have hf : f < 16 := by omega
      have HTN : Hid (s1.tn = (f : Int) :: B) := ht
      have hne : s1.fl f ≠ [] := (HR.out.inv.tfl f hf).1 (by rw [ht]; simp)
      obtain ⟨x, L, hL⟩ : ∃ x L, s1.fl f = x :: L := by
        cases hL : s1.fl f with
        | nil => exact absurd hL hne
        | cons x L => exact ⟨x, L, rfl⟩
      have HL : Hid (s1.fl f = x :: L) := hL
      have HBG : Hid (RnI q (beginS q s1 f)) := HR.out.inv.begin hf ht
      have hcb := HR.out.inv.cr0 f hf
      have hqb := HR.out.inv.qs f hf
      have HBE := rbegin_any f wr HR.out.pos.pos hf hcb.1 (by omega) hqb.1 hqb.2
      obtain ⟨e1, e2, e3⟩ := beginS_fl q s1 f
      have HFL : Hid ((beginS q s1 f).fl f = x :: L) := by show _ = _; rw [e1, hL]
      have HTB : Hid ((beginS q s1 f).tn = (f : Int) :: B) := by show _ = _; rw [e2, ht]
      have HB3 : Hid ((beginS q s1 f).bg = true) := e3
      have hxl := ok_len (HR.out.inv.ok f hf x (by rw [hL]; simp)).1
      have hcr := beginS_cr0 HR.out.inv hf ht
      obtain ⟨s2, hs2⟩ : ∃ s2, beginS q s1 f = s2 := ⟨_, rfl⟩
      have HS2 : Hid (beginS q s1 f = s2) := hs2
      have HNS : Hid (x.l ≤ s2.cr f → takeW q s = (fsendS s2 f x L, [], x, true)) := by
        intro hx
        rw [← HR.out.same, ← hs2]
        exact takeW_send ht hf hL (by rw [hs2]; exact hx)
      have HNP : Hid (s2.cr f < x.l → takeW q (passS s2 f) = takeW q s ∧ mu (passS s2 f) < mu s1) := by
        intro hx
        have hmp : mu (passS (beginS q s1 f) f) < mu s1 := mu_pass HR.out.inv hf ht (by rw [hs2]; omega)
        rw [← HR.out.same, ← hs2]
        exact ⟨(takeW_pass ht hL (by rw [hs2]; omega) hmp).symm, hmp⟩
      rw [hs2] at HBE HBG HFL HTB HB3 hcr
      have hB := not_in_tail HBG.out HTB.out
      clear hs2 e1 e2 e3 hne hL ht
      go_wp2_with (first | (go_at_call 170; refine HFI.mono ?_; rintro e w2 ⟨rfl, hw2⟩; subst hw2) | (go_at_call 183; fail))
      refine HBE.mono ?_
      rintro e w3 ⟨rfl, C3, hp3, ho3⟩
      have hR3 : RnO W0 b room q vs tv s2 w3 C3 vs1 tv1 := HR.out.pos.trans (rno_b hp3 ho3)
      have hres3 : w3.heap[w.heap.size]? = _ := (ho3.block _ hwr (by omega)).trans HR.out.res
      have HFS : Hid (∀ W : World, Below w3.heap.size w3 W → Calls Tryz.prog 146 #[.pointer (some ⟨b, 33 + f * 2, none⟩)] W fun e w' => e = .returned (.tuple #[x.val, .bool true]) ∧ Below W.heap.size W w') := by
        intro W hW
        have h1 := firstO_any W ((hp3.below hW).list hf)
        rw [HFL.out] at h1
        exact h1
      have HR3 : Hid (RnO W0 b room q vs tv s2 w3 C3 vs1 tv1) := hR3
      have hb3 := hp3.blk.lt
      clear hp3 ho3 hR3 c0 c65 c66 f65 f66 z0 z1 z2 z3 z4 z5 y0 y1 y2 y3 y4 y5 HBE HFI
      go_wp2_with (go_at_call 146; fail)
      refine (HFS.out _ (Below.refl _ _)).mono ?_
      rintro e w4 ⟨rfl, hb4⟩
      have hR4 := rno_below HR3.out hb4
      have hres4 : w4.heap[w.heap.size]? = _ := (hb4.block _ (lt_of_block hres3)).trans hres3
      have HR4 : Hid (RnO W0 b room q vs tv s2 w4 C3 vs1 tv1) := hR4
      have HZ4 : Hid (w4.heap[w.heap.size]? = some (.cells #[.int .i64 0, .int .i64 0, .int .i64 0, .int .i64 0, .int .i64 0, .int .i64 0] 76 (0, 0))) := hres4
      obtain ⟨d0, d1, d2⟩ := hR4.pos.flow hf
      obtain ⟨⟨z0, z1, z2, z3, z4, z5⟩, y0, y1, y2, y3, y4, y5⟩ := six hres4
      have hbw4 := hR4.pos.blk.lt
      have hww4 := lt_of_block hres4
      have hn1 : ¬ b = w4.heap.size := by omega
      have hn2 : ¬ w4.heap.size = b := by omega
      have HA4 : Hid (∀ (o : Obj) (n : Nat), RnP ((w4.alloc o).drewN n) b room q C3 vs1 tv1 s2) := fun o n => (hR4.pos.al o).drewN n
      have HO4 : Hid (∀ (o : Obj) (n : Nat), RnO W0 b room q vs tv s2 ((w4.alloc o).drewN n) C3 vs1 tv1) := fun o n => ⟨(HR4.out.pos.al o).drewN n, HR4.out.own, (HR4.out.ot.alloc o).drewN n⟩
      clear hR4 hb4 HFS hres3 hres4
      by_cases hx : x.l ≤ s2.cr f
      · have HT : Hid (takeW q s = (fsendS s2 f x L, [], x, true)) := HNS.out hx
        have HSE : Hid (∀ (o : Obj) (n : Nat), Calls Tryz.prog 184 #[.pointer (some ⟨b, 0, none⟩), .int .i64 f] ((w4.alloc o).drewN n) fun e w' => e = .returned x.val ∧ ∃ C' vs' tv', RnO ((w4.alloc o).drewN n) b room q vs1 tv1 (fsendS s2 f x L) w' C' vs' tv') := fun o n => fsend_any f x L B _ (HA4.out o n) hf HFL.out HTB.out hB HBG.out.few (by have := HBG.out.fit hf; rw [HFL.out] at this; exact this) hcr.1 (by omega)
        go_wp2
        go_quiet (fail)
        go_wp2_with (go_at_call 184; fail)
        refine (HSE.out _ _).mono ?_
        rintro e w5 ⟨rfl, C5, vs5, tv5, hR5⟩
        have hR6 := (HO4.out _ _).trans hR5
        have hnr : ¬ RnF b vs1 tv1 w.heap.size := by
          intro hk
          rcases HR4.out.own _ hk with h | h
          · have := HLW.out _ h; omega
          · omega
        have hres5 : w5.heap[w.heap.size]? = _ := (hR5.ot.block _ (by simp; omega) hnr).trans ((Below.heap_alloc _ _ _ hww4).trans HZ4.out)
        obtain ⟨⟨z0', z1', z2', z3', z4', z5'⟩, y0', y1', y2', y3', y4', y5'⟩ := six hres5
        have hww5 := lt_of_block hres5
        go_wp2
        (try simp only [Exit.inBlock, Exit.then])
        rw [HT.out]
        refine bodyPost_ret (v := .tuple #[x.val, .slice none 0 0, .bool true]) (ret_held2 rfl rfl (six_set hres5 _ _ _ _ _ _) rfl rfl) rfl ⟨rfl, C5, vs5, tv5, HEND.out _ _ _ _ _ _ _ _ _ _ _ hR6⟩
      · obtain ⟨k1, k2⟩ := HNP.out (by omega)
        have HK1 : Hid (takeW q (passS s2 f) = takeW q s) := k1
        have HK2 : Hid (mu (passS s2 f) < mu s1) := k2
        have HPI : Hid (RnI q (passS s2 f)) := HBG.out.pass HTB.out (by omega)
        have HPA : Hid (∀ (o : Obj) (n : Nat), Calls Tryz.prog 172 #[.pointer (some ⟨b, 65, none⟩), .int .i64 f] ((w4.alloc o).drewN n) fun e w' => e = .returned (.tuple #[]) ∧ ∃ tv', TPost ((w4.alloc o).drewN n) b 67 164 C3 65 tv1 (([] ++ B) ++ [(f : Int)]) w' tv') := fun o n => by
          have hT : TO ((w4.alloc o).drewN n) b 67 164 C3 65 tv1 ([] ++ (f : Int) :: B) := by
            have := (HA4.out o n).turns
            rw [HTB.out] at this
            exact this
          exact fpass_any [] B (f : Int) _ hT (by simp) hB (by have := HBG.out.few; rw [HTB.out] at this; exact this)
        have hxd : decide (x.l ≤ s2.cr f) = false := decide_eq_false hx
        clear k1 k2
        go_wp2
        go_quiet (fail)
        go_wp2_with (go_at_call 172; fail)
        refine (HPA.out _ _).mono ?_
        rintro e w5 ⟨rfl, tv5, hp5⟩
        have hR5 := (HO4.out _ _).trans (rno_turned (HA4.out _ _) hp5)
        have hnr : ¬ RnF b vs1 tv1 w.heap.size := by
          intro hk
          rcases HR4.out.own _ hk with h | h
          · have := HLW.out _ h; omega
          · omega
        have hres5 : w5.heap[w.heap.size]? = _ := (hp5.ot.block _ (by simp; omega) (by rintro (e | e); exact hnr (Or.inl e); exact hnr (Or.inr (Or.inr e)))).trans ((Below.heap_alloc _ _ _ hww4).trans HZ4.out)
        have HR5 : Hid (RnO W0 b room q vs tv { s2 with tn := ([] ++ B) ++ [(f : Int)] } w5 (updC C3 65 tv5) vs1 tv5) := hR5
        have HZ5 : Hid (w5.heap[w.heap.size]? = some (.cells #[.int .i64 0, .int .i64 0, .int .i64 0, .int .i64 0, .int .i64 0, .int .i64 0] 76 (0, 0))) := hres5
        obtain ⟨⟨c0, c65, c66⟩, f65, f66⟩ := hR5.pos.cells
        have hb5 := hR5.pos.blk.lt
        clear hp5 hR5 hres5
        go_wp2
        go_roundg (mu s1)
        case measure => exact hmu
        case rel =>
          have e : passS s2 f = { s2 with tn := ([] ++ B) ++ [(f : Int)], bg := false } := by rw [passS, HTB.out]; rfl
          refine ⟨passS s2 f, updC (updC C3 65 tv5) 66 (.bool false), vs1, tv5, HK2.out, HK1.out, HPI.out, ?_, heap_other (by omega) HZ5.out⟩
          rw [e]
          exact ⟨HR5.out.pos.setB false, HR5.out.own, Ot.setCell HR5.out.ot (Or.inl (Or.inl rfl)) _⟩
end Go.Proofs.YtfakjedolecdcaaGreatDoor
namespace Go.Proofs.YtfakjedolecdcaaGreatDoor
open Go.RowKit Go.Extern.Stop Go.Stop Go.Extern

/-- What Put leaves, and what it throws away. -/
def putW (room : Int) (s : RnS) (x : Hd) : RnS × List Hd :=
  if x.ok = true ∧ ¬ room ≤ ((s.fl x.f.toNat).length : Int) then
    ({ fl := updF s.fl x.f.toNat (s.fl x.f.toNat ++ [x]), cr := if (s.fl x.f.toNat).isEmpty then updF s.cr x.f.toNat 0 else s.cr, tn := if (s.fl x.f.toNat).isEmpty then s.tn ++ [x.f] else s.tn, bg := s.bg }, [])
  else (s, [x])
theorem ok_flow {x : Hd} (h : x.ok = true) : 0 ≤ x.f ∧ x.f ≤ 15 := by
  simp only [Hd.ok, It.ok, Bool.and_eq_true, wth_iff] at h
  omega
/-- What a Put leaves. -/
structure RnT (w : World) (b : Nat) (room : Int) (q : Nat → Int) (vs : Nat → Value) (tv : Value) (p : RnS × List Hd) (u : Value) (w' : World) (C' : Nat → Value) (vs' : Nat → Value) (tv' : Value) : Prop where
  lost : Hs w' u p.2
  new : ∀ k, u.ownBlock = some k → w.heap.size ≤ k
  pos : RnO w b room q vs tv p.1 w' C' vs' tv'
set_option maxRecDepth 20000 in
set_option maxHeartbeats 8000000 in
theorem rpt_any {b : Nat} {room : Int} {q : Nat → Int} {C : Nat → Value} {vs : Nat → Value} {tv : Value} {s : RnS} (now : Int) (x : Hd) (w : World) (h : RnP w b room q C vs tv s) (hI : RnI q s) (hok : x.ok = true) (hfit : Fit (s.fl x.f.toNat ++ [x])) :
    Calls Tryz.prog 180 #[.pointer (some ⟨b, 0, none⟩), .int .i64 now, x.val] w fun e w' => ∃ u C' vs' tv', e = .returned u ∧ RnT w b room q vs tv (putW room s x) u w' C' vs' tv' := by
  have H : Hid (RnP w b room q C vs tv s) := h
  have hb := h.blk.lt
  obtain ⟨hf0, hf1⟩ := ok_flow hok
  obtain ⟨xa, xl, xf, xb, xm, xn⟩ := x
  obtain ⟨f, hf⟩ : ∃ f : Nat, xf = f := ⟨xf.toNat, by simp only at hf0; omega⟩
  subst hf
  have hf16 : f < 16 := by simp only at hf1; omega
  have HPW : Hid (putW room s ⟨xa, xl, f, xb, xm, xn⟩ = if ¬ room ≤ ((s.fl f).length : Int) then ({ fl := updF s.fl f (s.fl f ++ [⟨xa, xl, f, xb, xm, xn⟩]), cr := if (s.fl f).isEmpty then updF s.cr f 0 else s.cr, tn := if (s.fl f).isEmpty then s.tn ++ [(f : Int)] else s.tn, bg := s.bg }, []) else (s, [⟨xa, xl, f, xb, xm, xn⟩])) := by
    show _ = _
    rw [putW]
    simp [hok]
  have HFIT : Hid (Fit (s.fl f ++ [⟨xa, xl, f, xb, xm, xn⟩])) := by show Fit _; simpa using hfit
  have HTF : Hid (s.tn.length ≤ 1000) := hI.few
  have HLW : Hid (∀ k, RnF b vs tv k → k < w.heap.size) := fun k hk => h.low hk
  have HCK := fun W => check_yes xa xl f xb xm W hok
  obtain ⟨X, hX⟩ : ∃ X : Hd, X = ⟨xa, xl, f, xb, xm, xn⟩ := ⟨_, rfl⟩
  have HXV : Hid (X.val = .agg #[.int .i64 xa, .int .i64 xl, .int .i64 f, .int .i64 xb, .int .i64 xm, .int .i64 xn]) := by show _ = _; rw [hX]; rfl
  have HXC : Hid (X.cs.toArray = #[.int .i64 xa, .int .i64 xl, .int .i64 f, .int .i64 xb, .int .i64 xm, .int .i64 xn]) := by show _ = _; rw [hX]; rfl
  rw [← hX] at HPW HFIT ⊢
  rw [HXV.out]
  clear h hI hfit hX hok hf0 hf1
  go_enter Tryz.func180, Tryz.ntmps180
  go_wp2_with (go_at_call 38; fail)
  refine (HCK _).mono ?_
  rintro e w1 ⟨rfl, hw1⟩
  have hB1 : Below w.heap.size w w1 := by rw [hw1]; exact below_alloc_ (below_alloc_ (Below.refl _ _) _) _
  have hs1 : w.heap.size + 2 = w1.heap.size := by rw [hw1]; simp
  have hx1 : w1.heap[w.heap.size]? = some (.cells #[.int .i64 xa, .int .i64 xl, .int .i64 f, .int .i64 xb, .int .i64 xm, .int .i64 xn] 76 (0, 0)) := by rw [hw1]; exact (Below.heap_alloc _ _ _ (by simp)).trans (new_block w _)
  clear hw1
  have HP1 : Hid (RnP w1 b room q C vs tv s) := H.out.below hB1
  have HO1 : Hid (Ot (RnF b vs tv) w w1) := Ot.of_below hB1
  have HX1 : Hid (w1.heap[w.heap.size]? = some (.cells #[.int .i64 xa, .int .i64 xl, .int .i64 f, .int .i64 xb, .int .i64 xm, .int .i64 xn] 76 (0, 0))) := hx1
  obtain ⟨⟨z0, z1, z2, z3, z4, z5⟩, y0, y1, y2, y3, y4, y5⟩ := six hx1
  obtain ⟨⟨c0, c65, c66⟩, f65, f66⟩ := HP1.out.cells
  have hb1 := HP1.out.blk.lt
  have hw1 := lt_of_block hx1
  have HLN : Hid (∀ n, Calls Tryz.prog 139 #[.pointer (some ⟨b, 33 + f * 2, none⟩)] (w1.drewN n) fun e w' => e = .returned (.int .i64 (s.fl f).length) ∧ w' = w1.drewN n) := fun n => lenO_any _ ((HP1.out.drewN n).list hf16)
  obtain ⟨ln, hln⟩ : ∃ ln, (s.fl f).length = ln := ⟨_, rfl⟩
  have HLL : Hid ((s.fl f).length = ln) := hln
  rw [hln] at HLN HPW
  clear hB1 hx1 hln HCK
  go_wp2
  go_quiet (fail)
  go_wp2
  go_quiet (first | (go_at_call 139; refine (HLN.out _).mono ?_; rintro e w2 ⟨rfl, rfl⟩; exact ⟨rfl, _, rfl⟩))
  by_cases hroom : room ≤ (ln : Int)
  · have hP : putW room s X = (s, [X]) := by rw [HPW.out, if_neg (by omega)]
    have HP : Hid (putW room s X = (s, [X])) := hP
    clear hP
    go_wp2
    go_ret
    rw [HP.out]
    have hO := HO1.out
    have hT : ∀ n (W : World), W = (w1.drewN n).alloc (.cells #[.int .i64 xa, .int .i64 xl, .int .i64 f, .int .i64 xb, .int .i64 xm, .int .i64 xn] 76) → RnT w b room q vs tv (s, [X]) (.slice (some ⟨w1.heap.size, 0, none⟩) 1 1) W C vs tv := by
      rintro n W rfl
      refine ⟨Hs.one ?_, fun k hk => ?_, (HP1.out.drewN n).al _, fun k hk => Or.inl hk, (hO.drewN n).alloc _⟩
      · rw [HXC.out]; exact new_block_ rfl
      · simp [Value.ownBlock] at hk; omega
    first
    | exact ⟨_, C, vs, tv, rfl, hT _ _ rfl⟩
    | exact ⟨_, rfl, C, vs, tv, hT _ _ rfl⟩
  · have hrd : decide (room ≤ (ln : Int)) = false := decide_eq_false hroom
    have HRM : Hid ((ln : Int) < room) := by show _ < _; omega
    have HAD : Hid (∀ (W : World) (s' : RnS) (C' : Nat → Value) (vs' : Nat → Value) (tv' : Value), RnP W b room q C' vs' tv' s' → s'.fl f = s.fl f → Calls Tryz.prog 143 #[.pointer (some ⟨b, 33 + f * 2, none⟩), .agg #[.int .i64 xa, .int .i64 xl, .int .i64 f, .int .i64 xb, .int .i64 xm, .int .i64 xn]] W fun e w' => e = .returned (.tuple #[]) ∧ ∃ v', RnO W b room q vs' tv' { s' with fl := updF s'.fl f (s.fl f ++ [X]) } w' (updL C' (33 + f * 2) v' (s.fl f ++ [X])) (updF vs' f v') tv') := by
      intro W s' C' vs' tv' hW hs'
      have hl := hW.list hf16
      rw [hs'] at hl
      have h1 := addO_any X W hl HFIT.out
      rw [HXV.out] at h1
      refine h1.mono ?_
      rintro e w' ⟨rfl, v', hl', hk', ho'⟩
      exact ⟨rfl, v', rno_listed hW hf16 hl' hk' ho'⟩
    rcases Nat.eq_zero_or_pos ln with h0 | h0
    · have he : s.fl f = [] := List.eq_nil_of_length_eq_zero (by rw [HLL.out]; exact h0)
      have HPE : Hid (putW room s X = ({ fl := updF s.fl f (s.fl f ++ [X]), cr := updF s.cr f 0, tn := s.tn ++ [(f : Int)], bg := s.bg }, [])) := by
        show _ = _
        rw [HPW.out, if_pos (by omega), he]
        rfl
      have HJ : Hid (∀ W : World, RnP W b room q C vs tv s → Calls Tryz.prog 168 #[.pointer (some ⟨b, 65, none⟩), .int .i64 f] W fun e w' => e = .returned (.tuple #[]) ∧ ∃ tv', TPost W b 67 164 C 65 tv (s.tn ++ [(f : Int)]) w' tv') := fun W hW => join_any (f : Int) W hW.turns HTF.out
      have htl : ∀ k, tv.ownBlock = some k → k < w.heap.size := fun k hk => HLW.out k (Or.inr (Or.inr hk))
      have HTL : Hid (∀ k, tv.ownBlock = some k → k < w.heap.size) := htl
      subst h0
      clear he htl
      go_wp2_with (go_at_call 139; refine (HLN.out _).mono ?_; rintro e w2 ⟨rfl, hw2⟩; subst hw2)
      go_region_with (go_at_call 168; refine Calls.mono (HJ.out _ (by exact HP1.out.kept (fun _ _ => rfl))) ?_; rintro e w2 ⟨rfl, tv2, hp2⟩)
      all_goals
        have hR2 := rno_turned (HP1.out.drewN _) hp2
        have hO2 : Ot (RnF b vs tv) w w2 := (HO1.out.drewN _).trans hR2.ot
        have htl := HTL.out
        have hx2 : w2.heap[w.heap.size]? = _ := (hp2.ot.block w.heap.size (by simpa using hw1) (by rintro (e | e); omega; have := htl _ e; omega)).trans HX1.out
        have HX2 : Hid (w2.heap[w.heap.size]? = some (.cells #[.int .i64 xa, .int .i64 xl, .int .i64 f, .int .i64 xb, .int .i64 xm, .int .i64 xn] 76 (0, 0))) := hx2
        have hR2' : RnO w b room q vs tv { s with tn := s.tn ++ [(f : Int)] } w2 (updC C 65 tv2) vs tv2 := ⟨hR2.pos, fun k hk => by rcases hR2.own k hk with h | h; exact Or.inl h; exact Or.inr (by simp at h; omega), hO2⟩
        have HR2 : Hid (RnO w b room q vs tv { s with tn := s.tn ++ [(f : Int)] } w2 (updC C 65 tv2) vs tv2) := hR2'
        obtain ⟨⟨z0', z1', z2', z3', z4', z5'⟩, y0', y1', y2', y3', y4', y5'⟩ := six hx2
        obtain ⟨d0, d1, d2⟩ := hR2.pos.flow hf16
        have hb2 := hR2.pos.blk.lt
        have hw2 := lt_of_block hx2
        clear hp2 hR2 hO2 htl hx2 hR2'
        go_wp2
        go_region
        go_wp2_with (go_at_call 143; fail)
        refine (HAD.out _ _ _ _ _ ((HR2.out.pos.setC hf16 0).drewN 1) rfl).mono ?_
        rintro e w4 ⟨rfl, v4, hR⟩
        have hR4 := RnO.trans (w1 := ((w2.setCell ⟨b, 17 + f, none⟩ (.int .i64 0)).drewN 1)) ⟨(HR2.out.pos.setC hf16 0).drewN 1, HR2.out.own, Ot.drewN (Ot.setCell HR2.out.ot (Or.inl (Or.inl rfl)) _) 1⟩ hR
        go_wp2
        go_ret
        rw [HPE.out]
        have hT : RnT w b room q vs tv ({ fl := updF s.fl f (s.fl f ++ [X]), cr := updF s.cr f 0, tn := s.tn ++ [(f : Int)], bg := s.bg }, []) (.slice none 0 0) w4 (updL (updC (updC C 65 tv2) (17 + f) (.int .i64 0)) (33 + f * 2) v4 (s.fl f ++ [X])) (updF vs f v4) tv2 := ⟨Hs.nil _, fun k hk => by simp [Value.ownBlock] at hk, hR4⟩
        first
        | exact ⟨_, _, _, _, rfl, hT⟩
        | exact ⟨_, rfl, _, _, _, hT⟩
    · have hie : (s.fl f).isEmpty = false := by
        cases hs : s.fl f with
        | nil => have := HLL.out; rw [hs] at this; simp at this; omega
        | cons y l => rfl
      have HPE : Hid (putW room s X = ({ fl := updF s.fl f (s.fl f ++ [X]), cr := s.cr, tn := s.tn, bg := s.bg }, [])) := by
        show _ = _
        rw [HPW.out, if_pos (by omega), hie]
        rfl
      have h0b : ((ln : Int) == 0) = false := by simp; omega
      clear hie
      go_wp2_with (first | (go_at_call 139; refine (HLN.out _).mono ?_; rintro e w2 ⟨rfl, hw2⟩; subst hw2) | (go_at_call 143; fail))
      refine (HAD.out _ _ _ _ _ (HP1.out.drewN _) rfl).mono ?_
      rintro e w4 ⟨rfl, v4, hR⟩
      have hR4 : RnO w b room q vs tv { s with fl := updF s.fl f (s.fl f ++ [X]) } w4 (updL C (33 + f * 2) v4 (s.fl f ++ [X])) (updF vs f v4) tv := ⟨hR.pos, fun k hk => by rcases hR.own k hk with h | h; exact Or.inl h; exact Or.inr (by simp at h; omega), (HO1.out.drewN _).trans hR.ot⟩
      go_wp2
      go_ret
      rw [HPE.out]
      have hT : RnT w b room q vs tv ({ fl := updF s.fl f (s.fl f ++ [X]), cr := s.cr, tn := s.tn, bg := s.bg }, []) (.slice none 0 0) w4 (updL C (33 + f * 2) v4 (s.fl f ++ [X])) (updF vs f v4) tv := ⟨Hs.nil _, fun k hk => by simp [Value.ownBlock] at hk, hR4⟩
      first
      | exact ⟨_, _, _, _, rfl, hT⟩
      | exact ⟨_, rfl, _, _, _, hT⟩
end Go.Proofs.YtfakjedolecdcaaGreatDoor
namespace Go.Proofs.YtfakjedolecdcaaGreatDoor
open Go.RowKit Go.Extern.Stop Go.Stop Go.Extern

/-- What waits in the first n lists. -/
def allF (fl : Nat → List Hd) (n : Nat) : List Hd := (List.range n).flatMap fl
theorem allF_succ (fl : Nat → List Hd) (n : Nat) : allF fl (n + 1) = allF fl n ++ fl n := by
  unfold allF
  rw [List.range_succ, List.flatMap_append]
  simp
theorem allF_mono (fl : Nat → List Hd) {k n : Nat} (h : k ≤ n) : (allF fl k).length ≤ (allF fl n).length ∧ (∀ x ∈ allF fl k, x ∈ allF fl n) := by
  induction n with
  | zero => obtain rfl : k = 0 := by omega
            exact ⟨Nat.le_refl _, fun _ hx => hx⟩
  | succ n ih =>
    rcases Nat.lt_or_ge n k with h1 | h1
    · obtain rfl : k = n + 1 := by omega
      exact ⟨Nat.le_refl _, fun _ hx => hx⟩
    · obtain ⟨h2, h3⟩ := ih h1
      rw [allF_succ]
      refine ⟨by simp; omega, fun x hx => by simp [h3 x hx]⟩
set_option maxHeartbeats 1000000 in
theorem packs_any {b N : Nat} {T : TypeId} {C : Nat → Value} {o n : Nat} {vs : Nat → Value} {fl : Nat → List Hd} (w : World) (h : ∀ i, i < n → LO w b N T C (o + i * 2) (vs i) (fl i)) (hn : n ≤ 1000) (hF : Fit (allF fl n)) :
    Calls Tryz.prog 166 #[.slice (some ⟨b, o, none⟩) n n] w fun e w' => e = .returned (.int .i64 (allF fl n).length) ∧ w' = w := by
  have HL : Hid (∀ i, i < n → LO w b N T C (o + i * 2) (vs i) (fl i)) := h
  have HF : Hid (Fit (allF fl n)) := hF
  clear h hF
  go_enter Tryz.func166, Tryz.ntmps166
  go_wp2
  go_loopw [3, 7] (fun a i wr => ∃ k : Nat, k ≤ n ∧ i = .int .i64 k ∧ a = .int .i64 (allF fl k).length ∧ wr = w) (fun _ i _ => n - (intOf i).toNat)
  case atStart => exact ⟨0, Nat.zero_le _, rfl, rfl, rfl⟩
  case round =>
    obtain ⟨k, hk, rfl, rfl, rfl⟩ := hrel
    by_cases hlt : k < n
    · have HQ := lenO_any wr (HL.out k hlt)
      have h1 := (allF_mono fl (show k + 1 ≤ n by omega)).1
      have h2 := HF.out.1
      have HS : Hid (allF fl (k + 1) = allF fl k ++ fl k) := allF_succ fl k
      rw [HS.out, List.length_append] at h1
      obtain ⟨a, ha⟩ : ∃ a, (allF fl k).length = a := ⟨_, rfl⟩
      have HA : Hid ((allF fl k).length = a) := ha
      obtain ⟨c, hc⟩ : ∃ c, (fl k).length = c := ⟨_, rfl⟩
      have HC : Hid ((fl k).length = c) := hc
      rw [ha, hc] at h1
      rw [ha]
      rw [hc] at HQ
      have hac : a + c ≤ 1000000 := by omega
      clear ha hc h1 h2
      go_wp2_with (go_at_call 139; refine HQ.mono ?_; rintro e w2 ⟨rfl, hw2⟩; subst hw2)
      go_roundw
      case rel => exact ⟨k + 1, by omega, by go_num, by rw [HS.out, List.length_append, HA.out, HC.out]; congr 1, by first | rfl | trivial⟩
      case measure => simp [intOf]; omega
    · obtain rfl : k = n := by omega
      go_wp2
      go_ret
      exact ⟨rfl, rfl⟩
set_option maxHeartbeats 1000000 in
theorem bytesF_any {b N : Nat} {T : TypeId} {C : Nat → Value} {o n : Nat} {vs : Nat → Value} {fl : Nat → List Hd} (w : World) (h : ∀ i, i < n → LO w b N T C (o + i * 2) (vs i) (fl i)) (hn : n ≤ 1000) (hF : Fit (allF fl n)) :
    Calls Tryz.prog 165 #[.slice (some ⟨b, o, none⟩) n n] w fun e w' => e = .returned (.int .i64 (sumL (allF fl n))) ∧ w' = w := by
  have HL : Hid (∀ i, i < n → LO w b N T C (o + i * 2) (vs i) (fl i)) := h
  have HF : Hid (Fit (allF fl n)) := hF
  clear h hF
  go_enter Tryz.func165, Tryz.ntmps165
  go_wp2
  go_loopw [3, 7] (fun a i wr => ∃ k : Nat, k ≤ n ∧ i = .int .i64 k ∧ a = .int .i64 (sumL (allF fl k)) ∧ wr = w) (fun _ i _ => n - (intOf i).toNat)
  case atStart => exact ⟨0, Nat.zero_le _, rfl, rfl, rfl⟩
  case round =>
    obtain ⟨k, hk, rfl, rfl, rfl⟩ := hrel
    by_cases hlt : k < n
    · have HQ := bytesO_any wr (HL.out k hlt)
      have HS : Hid (allF fl (k + 1) = allF fl k ++ fl k) := allF_succ fl k
      have h1 := allF_mono fl (show k + 1 ≤ n by omega)
      have h2 := HF.out.1
      rw [HS.out] at h1
      have hb1 := Fit.sum (L := allF fl k) (fun x hx => HF.out.2 x (h1.2 x (by simp [hx])))
      have hb2 := Fit.sum (L := fl k) (fun x hx => HF.out.2 x (h1.2 x (by simp [hx])))
      have h3 := h1.1
      rw [List.length_append] at h3
      obtain ⟨a, ha⟩ : ∃ a, sumL (allF fl k) = a := ⟨_, rfl⟩
      have HA : Hid (sumL (allF fl k) = a) := ha
      obtain ⟨c, hc⟩ : ∃ c, sumL (fl k) = c := ⟨_, rfl⟩
      have HC : Hid (sumL (fl k) = c) := hc
      rw [ha] at hb1 ⊢
      rw [hc] at hb2 HQ
      have hac : 0 ≤ a ∧ a ≤ 10000000000 ∧ 0 ≤ c ∧ c ≤ 10000000000 := by omega
      clear ha hc h1 h2 h3 hb1 hb2
      go_wp2_with (go_at_call 138; refine HQ.mono ?_; rintro e w2 ⟨rfl, hw2⟩; subst hw2)
      go_roundw
      case rel => exact ⟨k + 1, by omega, by go_num, by rw [HS.out, sumL_append, HA.out, HC.out], by first | rfl | trivial⟩
      case measure => simp [intOf]; omega
    · obtain rfl : k = n := by omega
      go_wp2
      go_ret
      exact ⟨rfl, rfl⟩
theorem slice16 (b : Nat) (w : World) : (Instr.sliceAt 162 (.pointer (some ⟨b, 33, none⟩)) none none none).run Tryz.prog w = .ok (.slice (some ⟨b, 33, none⟩) 16 16) w := by kernel_rfl
theorem rlen_any {b : Nat} {room : Int} {q : Nat → Int} {C : Nat → Value} {vs : Nat → Value} {tv : Value} {s : RnS} (w : World) (h : RnP w b room q C vs tv s) (hF : Fit (allF s.fl 16)) :
    Calls Tryz.prog 179 #[.pointer (some ⟨b, 0, none⟩)] w fun e w' => e = .returned (.int .i64 (allF s.fl 16).length) ∧ w' = w := by
  have HQ := packs_any (o := 33) (n := 16) w (fun i hi => h.list hi) (by decide) hF
  have hsl := slice16 b
  have hb := h.blk.lt
  clear h
  go_enter Tryz.func179, Tryz.ntmps179
  go_wp2_with (go_at_call 166; refine HQ.mono ?_; rintro e w2 ⟨rfl, hw2⟩; subst hw2)
  go_ret
  exact ⟨rfl, rfl⟩
theorem rbts_any {b : Nat} {room : Int} {q : Nat → Int} {C : Nat → Value} {vs : Nat → Value} {tv : Value} {s : RnS} (w : World) (h : RnP w b room q C vs tv s) (hF : Fit (allF s.fl 16)) :
    Calls Tryz.prog 178 #[.pointer (some ⟨b, 0, none⟩)] w fun e w' => e = .returned (.int .i64 (sumL (allF s.fl 16))) ∧ w' = w := by
  have HQ := bytesF_any (o := 33) (n := 16) w (fun i hi => h.list hi) (by decide) hF
  have hsl := slice16 b
  have hb := h.blk.lt
  clear h
  go_enter Tryz.func178, Tryz.ntmps178
  go_wp2_with (go_at_call 165; refine HQ.mono ?_; rintro e w2 ⟨rfl, hw2⟩; subst hw2)
  go_ret
  exact ⟨rfl, rfl⟩
theorem twhen_any {tv : Value} {l : List Int} (now : Int) (w : World) (h : Ins w tv l) : Calls Tryz.prog 173 #[tv, .int .i64 now] w fun e w' => e = .returned (.tuple #[.int .i64 now, .bool (!l.isEmpty)]) ∧ w' = w := by
  obtain ⟨x, cap, rfl⟩ := Ins.slice h
  have HE : Hid (decide (0 < l.length) = !l.isEmpty) := by
    show _ = _
    cases l <;> simp
  clear h
  go_enter Tryz.func173, Tryz.ntmps173
  go_wp2
  go_ret2
  exact ⟨by rw [← HE.out]; simp, rfl⟩
theorem rwhen_any {b : Nat} {room : Int} {q : Nat → Int} {C : Nat → Value} {vs : Nat → Value} {tv : Value} {s : RnS} (now : Int) (w : World) (h : RnP w b room q C vs tv s) :
    Calls Tryz.prog 182 #[.pointer (some ⟨b, 0, none⟩), .int .i64 now] w fun e w' => e = .returned (.tuple #[.int .i64 now, .bool (!s.tn.isEmpty)]) ∧ w' = w := by
  have HQ := twhen_any now w h.trow
  obtain ⟨⟨c0, c65, c66⟩, f65, f66⟩ := h.cells
  have hb := h.blk.lt
  obtain ⟨x, cap, hx⟩ := Ins.slice h.trow
  clear h
  subst hx
  go_enter Tryz.func182, Tryz.ntmps182
  go_wp2_with (go_at_call 173; refine HQ.mono ?_; rintro e w2 ⟨rfl, hw2⟩; subst hw2)
  go_ret2
  exact ⟨rfl, rfl⟩
end Go.Proofs.YtfakjedolecdcaaGreatDoor
