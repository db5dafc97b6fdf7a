/-
  fair.Rounds: what Take does. Conditions: they lie in memory; numbers within bounds.
-/
import Derived.Test.YtejomfmbhifeaaaDoorFg
namespace Go.Proofs.YtejomfmbhifeaaaDoor
open Go.RowKit Go.Extern.Stop Go.Stop Go.Extern

theorem rno_refl {w : World} {b : Nat} {room : Int} {q : Nat → Int} {C : Nat → Value} {vs : Nat → Value} {tv : Value} {s : RnS} (h : RnP w b room q C vs tv s) : RnO w b room q vs tv s w C vs tv := ⟨h, fun _ hk => Or.inl hk, Ot.refl _ _⟩
theorem rno_below {w w1 w2 : World} {b : Nat} {room : Int} {q : Nat → Int} {C : Nat → Value} {vs vs1 : Nat → Value} {tv tv1 : Value} {s : RnS} (h : RnO w b room q vs tv s w1 C vs1 tv1) (hb : Below w1.heap.size w1 w2) : RnO w b room q vs tv s w2 C vs1 tv1 := ⟨h.pos.below hb, h.own, h.ot.trans (Ot.of_below hb)⟩
theorem rno_b {w w' : World} {b : Nat} {room : Int} {q : Nat → Int} {C' : Nat → Value} {vs : Nat → Value} {tv : Value} {s' : RnS} (h' : RnP w' b room q C' vs tv s') (ho : Ot (· = b) w w') : RnO w b room q vs tv s' w' C' vs tv := ⟨h', fun _ hk => Or.inl hk, ho.mono (fun _ _ e => Or.inl e)⟩
/-- A round of Take. -/
structure TkR (q : Nat → Int) (s : RnS) (w : World) (b : Nat) (room : Int) (vs : Nat → Value) (tv : Value) (s1 : RnS) (C1 : Nat → Value) (vs1 : Nat → Value) (tv1 : Value) (r : Nat) (wr : World) : Prop where
  same : takeW q s1 = takeW q s
  inv : RnI q s1
  pos : RnO w b room q vs tv s1 wr C1 vs1 tv1
  res : wr.heap[r]? = some (.cells #[.int .i64 0, .int .i64 0, .int .i64 0, .int .i64 0, .int .i64 0, .int .i64 0] 124 (0, 0))
set_option maxRecDepth 20000 in
set_option maxHeartbeats 8000000 in
theorem rtk_any {b : Nat} {room : Int} {q : Nat → Int} {C : Nat → Value} {vs : Nat → Value} {tv : Value} {s : RnS} (now : Int) (w : World) (h : RnP w b room q C vs tv s) (hI : RnI q s) :
    Calls Tryd.prog 101 #[.pointer (some ⟨b, 0, none⟩), .int .i64 now] w fun e w' => e = .returned (.tuple #[(takeW q s).2.2.1.val, .slice none 0 0, .bool (takeW q s).2.2.2]) ∧ ∃ C' vs' tv', RnO w b room q vs tv (takeW q s).1 w' C' vs' tv' := by
  have H : Hid (RnP w b room q C vs tv s) := h
  have hb := h.blk.lt
  have hV := Hd.val_eq
  have HI : Hid (RnI q s) := hI
  have HLW : Hid (∀ k, RnF b vs tv k → k < w.heap.size) := fun k hk => h.low hk
  clear h hI
  obtain ⟨W0, hW0⟩ : ∃ W0, w.alloc (.cells #[.int .i64 0, .int .i64 0, .int .i64 0, .int .i64 0, .int .i64 0, .int .i64 0] 124) = W0 := ⟨_, rfl⟩
  have HP0 : Hid (RnP W0 b room q C vs tv s) := by show RnP _ _ _ _ _ _ _ _; rw [← hW0]; exact H.out.al _
  have hs0 : W0.heap.size = w.heap.size + 1 := by rw [← hW0]; simp
  have HZ0 : Hid (W0.heap[w.heap.size]? = some (.cells #[.int .i64 0, .int .i64 0, .int .i64 0, .int .i64 0, .int .i64 0, .int .i64 0] 124 (0, 0))) := by show _ = _; rw [← hW0]; exact new_block w _
  have HO0 : Hid (Ot (RnF b vs tv) w W0) := by show Ot _ _ _; rw [← hW0]; exact Ot.alloc (Ot.refl _ _) _
  have HEND : Hid (∀ (s' : RnS) (W : World) (C1 : Nat → Value) (vs1 : Nat → Value) (tv1 : Value) (a0 a1 a2 a3 a4 a5 : Value), RnO W0 b room q vs tv s' W C1 vs1 tv1 → RnO w b room q vs tv s' ((((((W.setCell ⟨w.heap.size, 0, none⟩ a0).setCell ⟨w.heap.size, 1, none⟩ a1).setCell ⟨w.heap.size, 2, none⟩ a2).setCell ⟨w.heap.size, 3, none⟩ a3).setCell ⟨w.heap.size, 4, none⟩ a4).setCell ⟨w.heap.size, 5, none⟩ a5) C1 vs1 tv1) := by
    intro s' W C1 vs1 tv1 a0 a1 a2 a3 a4 a5 hR
    have hnr : ¬ RnF b vs1 tv1 w.heap.size := by
      intro hk
      rcases hR.own _ hk with h | h
      · have := HLW.out _ h; omega
      · omega
    refine ⟨(((((hR.pos.setO hnr _).setO hnr _).setO hnr _).setO hnr _).setO hnr _).setO hnr _, fun k hk => ?_, ?_⟩
    · rcases hR.own k hk with h | h
      · exact Or.inl h
      · exact Or.inr (by omega)
    · have hO : Ot (RnF b vs tv) w W := HO0.out.trans hR.ot
      repeat' (first | with_reducible exact hO | with_reducible refine Ot.setCell ?_ (Or.inr (Nat.le_refl _)) _)
  go_enter Tryd.func101, Tryd.ntmps101
  go_wp2
  clear hW0
  go_loopg [7] (mu s + 1) (fun k _ wr => ∃ s1 C1 vs1 tv1, mu s1 < k ∧ TkR q s W0 b room vs tv s1 C1 vs1 tv1 w.heap.size wr)
  case atStart => exact ⟨s, C, vs, tv, Nat.lt_succ_self _, rfl, HI.out, rno_refl HP0.out, HZ0.out⟩
  case round =>
    obtain ⟨s1, C1, vs1, tv1, hmu, hr⟩ := hrel
    have HR : Hid (TkR q s W0 b room vs tv s1 C1 vs1 tv1 w.heap.size wr) := hr
    obtain ⟨⟨c0, c65, c66⟩, f65, f66⟩ := hr.pos.pos.cells
    obtain ⟨⟨z0, z1, z2, z3, z4, z5⟩, y0, y1, y2, y3, y4, y5⟩ := six hr.res
    have hbr := hr.pos.pos.blk.lt
    have hwr := lt_of_block hr.res
    have HFI := tfirst_any wr hr.pos.pos.trow
    clear hr
    cases ht : s1.tn with
    | nil =>
      rw [ht] at HFI
      have HT : Hid (takeW q s = (s1, [], hd0, false)) := by show _ = _; rw [← HR.out.same, takeW_nil ht]
      go_wp2_with (go_at_call 106; refine HFI.mono ?_; rintro e w2 ⟨rfl, hw2⟩; subst hw2)
      (try simp only [Exit.inBlock, Exit.then])
      rw [HT.out]
      refine bodyPost_ret (v := .tuple #[hd0.val, .slice none 0 0, .bool false]) (ret_held2 rfl rfl (six_set HR.out.res _ _ _ _ _ _) rfl rfl) rfl ⟨rfl, C1, vs1, tv1, HEND.out _ _ _ _ _ _ _ _ _ _ _ HR.out.pos⟩
    | cons m B =>
      rw [ht] at HFI
      have hm := HR.out.inv.tin m (by rw [ht]; simp)
      obtain ⟨f, hf⟩ : ∃ f : Nat, m = f := ⟨m.toNat, by omega⟩
      subst hf
      have hf : f < 16 := by omega
      have HTN : Hid (s1.tn = (f : Int) :: B) := ht
      have hne : s1.fl f ≠ [] := (HR.out.inv.tfl f hf).1 (by rw [ht]; simp)
      obtain ⟨x, L, hL⟩ : ∃ x L, s1.fl f = x :: L := by
        cases hL : s1.fl f with
        | nil => exact absurd hL hne
        | cons x L => exact ⟨x, L, rfl⟩
      have HL : Hid (s1.fl f = x :: L) := hL
      have HBG : Hid (RnI q (beginS q s1 f)) := HR.out.inv.begin hf ht
      have hcb := HR.out.inv.cr0 f hf
      have hqb := HR.out.inv.qs f hf
      have HBE := rbegin_any f wr HR.out.pos.pos hf hcb.1 (by omega) hqb.1 hqb.2
      obtain ⟨e1, e2, e3⟩ := beginS_fl q s1 f
      have HFL : Hid ((beginS q s1 f).fl f = x :: L) := by show _ = _; rw [e1, hL]
      have HTB : Hid ((beginS q s1 f).tn = (f : Int) :: B) := by show _ = _; rw [e2, ht]
      have HB3 : Hid ((beginS q s1 f).bg = true) := e3
      have hxl := ok_len (HR.out.inv.ok f hf x (by rw [hL]; simp)).1
      have hcr := beginS_cr0 HR.out.inv hf ht
      obtain ⟨s2, hs2⟩ : ∃ s2, beginS q s1 f = s2 := ⟨_, rfl⟩
      have HS2 : Hid (beginS q s1 f = s2) := hs2
      have HNS : Hid (x.l ≤ s2.cr f → takeW q s = (sendS s2 f x L, [], x, true)) := by
        intro hx
        rw [← HR.out.same, ← hs2]
        exact takeW_send ht hf hL (by rw [hs2]; exact hx)
      have HNP : Hid (s2.cr f < x.l → takeW q (passS s2 f) = takeW q s ∧ mu (passS s2 f) < mu s1) := by
        intro hx
        have hmp : mu (passS (beginS q s1 f) f) < mu s1 := mu_pass HR.out.inv hf ht (by rw [hs2]; omega)
        rw [← HR.out.same, ← hs2]
        exact ⟨(takeW_pass ht hL (by rw [hs2]; omega) hmp).symm, hmp⟩
      rw [hs2] at HBE HBG HFL HTB HB3 hcr
      have hB := not_in_tail HBG.out HTB.out
      clear hs2 e1 e2 e3 hne hL ht
      go_wp2_with (first | (go_at_call 106; refine HFI.mono ?_; rintro e w2 ⟨rfl, hw2⟩; subst hw2) | (go_at_call 107; fail))
      refine HBE.mono ?_
      rintro e w3 ⟨rfl, C3, hp3, ho3⟩
      have hR3 : RnO W0 b room q vs tv s2 w3 C3 vs1 tv1 := HR.out.pos.trans (rno_b hp3 ho3)
      have hres3 : w3.heap[w.heap.size]? = _ := (ho3.block _ hwr (by omega)).trans HR.out.res
      have HFS : Hid (∀ W : World, Below w3.heap.size w3 W → Calls Tryd.prog 82 #[.pointer (some ⟨b, 33 + f * 2, none⟩)] W fun e w' => e = .returned (.tuple #[x.val, .bool true]) ∧ Below W.heap.size W w') := by
        intro W hW
        have h1 := firstO_any W ((hp3.below hW).list hf)
        rw [HFL.out] at h1
        exact h1
      have HR3 : Hid (RnO W0 b room q vs tv s2 w3 C3 vs1 tv1) := hR3
      have hb3 := hp3.blk.lt
      clear hp3 ho3 hR3 c0 c65 c66 f65 f66 z0 z1 z2 z3 z4 z5 y0 y1 y2 y3 y4 y5 HBE HFI
      go_wp2_with (go_at_call 82; fail)
      refine (HFS.out _ (Below.refl _ _)).mono ?_
      rintro e w4 ⟨rfl, hb4⟩
      have hR4 := rno_below HR3.out hb4
      have hres4 : w4.heap[w.heap.size]? = _ := (hb4.block _ (lt_of_block hres3)).trans hres3
      have HR4 : Hid (RnO W0 b room q vs tv s2 w4 C3 vs1 tv1) := hR4
      have HZ4 : Hid (w4.heap[w.heap.size]? = some (.cells #[.int .i64 0, .int .i64 0, .int .i64 0, .int .i64 0, .int .i64 0, .int .i64 0] 124 (0, 0))) := hres4
      obtain ⟨d0, d1, d2⟩ := hR4.pos.flow hf
      obtain ⟨⟨z0, z1, z2, z3, z4, z5⟩, y0, y1, y2, y3, y4, y5⟩ := six hres4
      have hbw4 := hR4.pos.blk.lt
      have hww4 := lt_of_block hres4
      have hn1 : ¬ b = w4.heap.size := by omega
      have hn2 : ¬ w4.heap.size = b := by omega
      have HA4 : Hid (∀ (o : Obj) (n : Nat), RnP ((w4.alloc o).drewN n) b room q C3 vs1 tv1 s2) := fun o n => (hR4.pos.al o).drewN n
      have HO4 : Hid (∀ (o : Obj) (n : Nat), RnO W0 b room q vs tv s2 ((w4.alloc o).drewN n) C3 vs1 tv1) := fun o n => ⟨(HR4.out.pos.al o).drewN n, HR4.out.own, (HR4.out.ot.alloc o).drewN n⟩
      clear hR4 hb4 HFS hres3 hres4
      by_cases hx : x.l ≤ s2.cr f
      · have HT : Hid (takeW q s = (sendS s2 f x L, [], x, true)) := HNS.out hx
        have HSE : Hid (∀ (o : Obj) (n : Nat), Calls Tryd.prog 108 #[.pointer (some ⟨b, 0, none⟩), .int .i64 f] ((w4.alloc o).drewN n) fun e w' => e = .returned x.val ∧ ∃ C' vs' tv', RnO ((w4.alloc o).drewN n) b room q vs1 tv1 (sendS s2 f x L) w' C' vs' tv') := fun o n => send_any f x L B _ (HA4.out o n) hf HFL.out HTB.out hB HBG.out.few (by have := HBG.out.fit hf; rw [HFL.out] at this; exact this) hcr.1 (by omega)
        go_wp2
        go_quiet (fail)
        go_wp2_with (go_at_call 108; fail)
        refine (HSE.out _ _).mono ?_
        rintro e w5 ⟨rfl, C5, vs5, tv5, hR5⟩
        have hR6 := (HO4.out _ _).trans hR5
        have hnr : ¬ RnF b vs1 tv1 w.heap.size := by
          intro hk
          rcases HR4.out.own _ hk with h | h
          · have := HLW.out _ h; omega
          · omega
        have hres5 : w5.heap[w.heap.size]? = _ := (hR5.ot.block _ (by simp; omega) hnr).trans ((Below.heap_alloc _ _ _ hww4).trans HZ4.out)
        obtain ⟨⟨z0', z1', z2', z3', z4', z5'⟩, y0', y1', y2', y3', y4', y5'⟩ := six hres5
        have hww5 := lt_of_block hres5
        go_wp2
        (try simp only [Exit.inBlock, Exit.then])
        rw [HT.out]
        refine bodyPost_ret (v := .tuple #[x.val, .slice none 0 0, .bool true]) (ret_held2 rfl rfl (six_set hres5 _ _ _ _ _ _) rfl rfl) rfl ⟨rfl, C5, vs5, tv5, HEND.out _ _ _ _ _ _ _ _ _ _ _ hR6⟩
      · obtain ⟨k1, k2⟩ := HNP.out (by omega)
        have HK1 : Hid (takeW q (passS s2 f) = takeW q s) := k1
        have HK2 : Hid (mu (passS s2 f) < mu s1) := k2
        have HPI : Hid (RnI q (passS s2 f)) := HBG.out.pass HTB.out (by omega)
        have HPA : Hid (∀ (o : Obj) (n : Nat), Calls Tryd.prog 109 #[.pointer (some ⟨b, 65, none⟩), .int .i64 f] ((w4.alloc o).drewN n) fun e w' => e = .returned (.tuple #[]) ∧ ∃ tv', TPost ((w4.alloc o).drewN n) b 67 116 C3 65 tv1 (([] ++ B) ++ [(f : Int)]) w' tv') := fun o n => by
          have hT : TO ((w4.alloc o).drewN n) b 67 116 C3 65 tv1 ([] ++ (f : Int) :: B) := by
            have := (HA4.out o n).turns
            rw [HTB.out] at this
            exact this
          exact pass_any [] B (f : Int) _ hT (by simp) hB (by have := HBG.out.few; rw [HTB.out] at this; exact this)
        have hxd : decide (x.l ≤ s2.cr f) = false := decide_eq_false hx
        clear k1 k2
        go_wp2
        go_quiet (fail)
        go_wp2_with (go_at_call 109; fail)
        refine (HPA.out _ _).mono ?_
        rintro e w5 ⟨rfl, tv5, hp5⟩
        have hR5 := (HO4.out _ _).trans (rno_turned (HA4.out _ _) hp5)
        have hnr : ¬ RnF b vs1 tv1 w.heap.size := by
          intro hk
          rcases HR4.out.own _ hk with h | h
          · have := HLW.out _ h; omega
          · omega
        have hres5 : w5.heap[w.heap.size]? = _ := (hp5.ot.block _ (by simp; omega) (by rintro (e | e); exact hnr (Or.inl e); exact hnr (Or.inr (Or.inr e)))).trans ((Below.heap_alloc _ _ _ hww4).trans HZ4.out)
        have HR5 : Hid (RnO W0 b room q vs tv { s2 with tn := ([] ++ B) ++ [(f : Int)] } w5 (updC C3 65 tv5) vs1 tv5) := hR5
        have HZ5 : Hid (w5.heap[w.heap.size]? = some (.cells #[.int .i64 0, .int .i64 0, .int .i64 0, .int .i64 0, .int .i64 0, .int .i64 0] 124 (0, 0))) := hres5
        obtain ⟨⟨c0, c65, c66⟩, f65, f66⟩ := hR5.pos.cells
        have hb5 := hR5.pos.blk.lt
        clear hp5 hR5 hres5
        go_wp2
        go_roundg (mu s1)
        case measure => exact hmu
        case rel =>
          have e : passS s2 f = { s2 with tn := ([] ++ B) ++ [(f : Int)], bg := false } := by rw [passS, HTB.out]; rfl
          refine ⟨passS s2 f, updC (updC C3 65 tv5) 66 (.bool false), vs1, tv5, HK2.out, HK1.out, HPI.out, ?_, heap_other (by omega) HZ5.out⟩
          rw [e]
          exact ⟨HR5.out.pos.setB false, HR5.out.own, Ot.setCell HR5.out.ot (Or.inl (Or.inl rfl)) _⟩
end Go.Proofs.YtejomfmbhifeaaaDoor
