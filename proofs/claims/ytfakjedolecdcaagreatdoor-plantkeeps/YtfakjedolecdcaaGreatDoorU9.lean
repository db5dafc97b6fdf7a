/-
  early.Red: what Put does. Conditions: the queue lies in memory; numbers within bounds; few packets.
  Numbers that lie in memory. Nothing is claimed here by itself.
  early.New: an empty Red in memory of its own, where room and setup may be and the tape is not too long; else the error. Conditions: the tape lies in memory.
  early.New: an empty Red in memory of its own, where room and setup may be and the tape is not too long; else the error. Conditions: the tape lies in memory.
  plain.Play with whatever queue: what is seen step by step, in memory of the call's own. Conditions: the steps lie in memory, a thousand at most; the queue's methods do what a model of it tells (a premise).
-/
import Derived.Test.YtfakjedolecdcaaGreatDoorU8
import Derived.Test.YtfakjedolecdcaaGreatDoorTm
namespace Go.Proofs.YtfakjedolecdcaaGreatDoor
open Go.RowKit Go.Extern.Stop Go.Stop Go.Extern

/-- The mean goes on. -/
def sumR (q : RSet) (s : RdS) : RdS := { s with sum := s.sum + (sumL s.L - meanR q s.sum) }
def marked (x : Hd) : Hd := { x with m := 255 }
/-- What Put leaves, and what it throws away. -/
def putR (P R : Int) (q : RSet) (s : RdS) (x : Hd) : RdS × List Hd :=
  if (hitR q (sumR q s)).1 then
    if q.mrk then ({ (hitR q (sumR q s)).2 with L := (putF P R false s.L (marked x)).2 }, (putF P R false s.L (marked x)).1)
    else ((hitR q (sumR q s)).2, [x])
  else ({ (hitR q (sumR q s)).2 with L := (putF P R false s.L x).2 }, (putF P R false s.L x).1)
theorem decR_L (q : RSet) (s : RdS) (m : Int) : (decR q s m).2.L = s.L ∧ (decR q s m).2.sum = s.sum ∧ s.since ≤ (decR q s m).2.since ∧ (decR q s m).2.since ≤ s.since + 1 := by
  unfold decR
  split
  · exact ⟨rfl, rfl, Int.le_refl _, by show s.since ≤ s.since + 1; omega⟩
  · exact ⟨rfl, rfl, by show s.since ≤ s.since + 1; omega, Int.le_refl _⟩
theorem hitR_L (q : RSet) (s : RdS) (h : 0 ≤ s.since) : (hitR q s).2.L = s.L ∧ (hitR q s).2.sum = s.sum ∧ 0 ≤ (hitR q s).2.since ∧ (hitR q s).2.since ≤ s.since + 1 := by
  obtain ⟨h1, h2, h3, h4⟩ := decR_L q s (meanR q s.sum)
  unfold hitR
  split
  · exact ⟨rfl, rfl, Int.le_refl _, by show (0 : Int) ≤ _; omega⟩
  · split
    · exact ⟨rfl, rfl, Int.le_refl _, by show (0 : Int) ≤ _; omega⟩
    · show (if _ then _ else _ : RdS).L = _ ∧ _
      split
      · exact ⟨h1, h2, Int.le_refl _, by show (0 : Int) ≤ _; omega⟩
      · exact ⟨h1, h2, Int.le_trans h h3, h4⟩
theorem RedP.below {w w' : World} {b : Nat} {P R : Int} {q : RSet} {v tv : Value} {s : RdS} (h : RedP w b P R q v tv s) (hb : Below w.heap.size w w') : RedP w' b P R q v tv s := h.kept (hb.block b (LAt.lt h.pos)) (fun k hk => hb.block k (h.pos.row.lt hk)) (fun k hk => hb.block k (Seg.lt h.tape hk))
theorem red_after {w2 w' : World} {b : Nat} {P R : Int} {q : RSet} {v v' tv : Value} {s : RdS} {L' : List Hd} (hr : RedP w2 b P R q v tv s) (hl : LAt w' b 152 (frest P R false (rmore q tv s)) v' L') (hk : ∀ k, v'.ownBlock = some k → v.ownBlock = some k ∨ w2.heap.size ≤ k) (ho : Ot (fun k => k = b ∨ v.ownBlock = some k) w2 w') : RedP w' b P R q v' tv { s with L := L' } := by
  refine ⟨hl, Seg.oth hr.tape ho (fun k hk' h => ?_), hr.tb, fun k hk' e => ?_⟩
  · rcases h with rfl | h
    · exact hr.tb hk'
    · exact hr.tvv k hk' h
  · rcases hk k e with h | h
    · exact hr.tvv k hk' h
    · have := Seg.lt hr.tape hk'; omega
set_option maxRecDepth 20000 in
set_option maxHeartbeats 2000000 in
theorem rput_any {b : Nat} {P R : Int} {q : RSet} {v tv : Value} {s : RdS} (now : Int) (x : Hd) (w : World) (h : RedP w b P R q v tv s) (hq : q.Ok) (hF : Fit (s.L ++ [x])) (hP : 0 ≤ P) (hR : 0 ≤ R) (hR1 : R ≤ 1000000) (hc0 : 0 ≤ s.since) (hc1 : s.since ≤ 100000) (h0 : 0 ≤ s.sum) (h1 : s.sum ≤ 1000000000000) :
    Calls Tryz.prog 149 #[.pointer (some ⟨b, 0, none⟩), .int .i64 now, x.val] w fun e w' => ∃ u v' tv', e = .returned u ∧ Hs w' u (putR P R q s x).2 ∧ RedP w' b P R q v' tv' (putR P R q s x).1 ∧ (∀ k, v'.ownBlock = some k → v.ownBlock = some k ∨ w.heap.size ≤ k) ∧ tv'.ownBlock = tv.ownBlock ∧ (∀ k, u.ownBlock = some k → w.heap.size ≤ k) ∧ Ot (fun k => k = b ∨ v.ownBlock = some k) w w' := by
  have H : Hid (RedP w b P R q v tv s) := h
  have hb := LAt.lt h.pos
  have hV := Hd.val_eq
  have HA : Hid (∀ (o : Obj) (n : Nat), RedP ((w.alloc o).drewN n) b P R q v tv s) := fun o n => (h.below (below_alloc_ (Below.refl _ _) _)).drewN n
  obtain ⟨⟨c5, c6, c7, c8, c9, c10, c11, c12⟩, f10, f11, f12⟩ := h.pos.cells
  have hsl := Fit.sum hF.pref.2
  have hfl := hF.1
  obtain ⟨sl, hsl'⟩ : ∃ sl, sumL s.L = sl := ⟨_, rfl⟩
  have hmb := meanR_bd q h0
  obtain ⟨m, hm⟩ : ∃ m, meanR q s.sum = m := ⟨_, rfl⟩
  rw [hm] at hmb
  have hsl2 : 0 ≤ sl ∧ sl ≤ 10000000000 := by rw [hsl'] at hsl; simp at hfl; omega
  have HSM : Hid (sumR q s = { s with sum := s.sum + (sl - m) }) := by show _ = _; rw [sumR, hsl', hm]
  have HBY : Hid (∀ W : World, RedP W b P R q v tv s → Calls Tryz.prog 138 #[.pointer (some ⟨b, 0, none⟩)] W fun e w' => e = .returned (.int .i64 sl) ∧ w' = W) := fun W hW => by
    have := bytes_any W hW.pos
    rw [hsl'] at this
    exact this
  have HME : Hid (∀ W : World, RedP W b P R q v tv s → Calls Tryz.prog 150 #[.pointer (some ⟨b, 0, none⟩)] W fun e w' => e = .returned (.int .i64 m) ∧ ∃ n, w' = W.drewN n) := fun W hW => by
    have := mean_any W hW.pos hq
    rw [hm] at this
    exact this
  have hwA : IntKind.i64.wrap (sl - m) = sl - m := by rw [IntKind.wrap_i64]; omega
  have hwB : IntKind.i64.wrap (s.sum + (sl - m)) = s.sum + (sl - m) := by rw [IntKind.wrap_i64]; omega
  clear h hsl hsl' hm
  go_enter Tryz.func149, Tryz.ntmps149
  go_upto_region 1 with (fail)
  go_cut [] (fun wc => ∃ n, wc = ((w.alloc (.cells #[.int .i64 x.a, .int .i64 x.l, .int .i64 x.f, .int .i64 x.b, .int .i64 x.m, .int .i64 x.n] 76)).drewN n).setCell ⟨b, 11, none⟩ (.int .i64 (s.sum + (sl - m))))
  case first =>
    go_region_with (first | (go_at_call 138; refine (HBY.out _ (HA.out _ _)).mono ?_; rintro e w1 ⟨rfl, hw1⟩; subst hw1) | (go_at_call 150; refine (HME.out _ (HA.out _ _)).mono ?_; rintro e w1 ⟨rfl, n1, hw1⟩; subst hw1))
    all_goals
      go_wp2
      go_meet
      case rel => exact ⟨_, rfl⟩
  case rest =>
    obtain ⟨n, rfl⟩ := hcut
    have HR1 : Hid (RedP (((w.alloc (.cells #[.int .i64 x.a, .int .i64 x.l, .int .i64 x.f, .int .i64 x.b, .int .i64 x.m, .int .i64 x.n] 76)).drewN n).setCell ⟨b, 11, none⟩ (.int .i64 (s.sum + (sl - m)))) b P R q v tv (sumR q s)) := by
      show RedP _ _ _ _ _ _ _ _
      rw [HSM.out]
      exact (HA.out _ n).sum _
    have hbx : (((w.alloc (.cells #[.int .i64 x.a, .int .i64 x.l, .int .i64 x.f, .int .i64 x.b, .int .i64 x.m, .int .i64 x.n] 76)).drewN n).setCell ⟨b, 11, none⟩ (.int .i64 (s.sum + (sl - m)))).heap[w.heap.size]? = some (.cells #[.int .i64 x.a, .int .i64 x.l, .int .i64 x.f, .int .i64 x.b, .int .i64 x.m, .int .i64 x.n] 76 (0, 0)) := heap_other (by omega) (heap_drew (new_block w _))
    have HO1 : Hid (Ot (· = b) w (((w.alloc (.cells #[.int .i64 x.a, .int .i64 x.l, .int .i64 x.f, .int .i64 x.b, .int .i64 x.m, .int .i64 x.n] 76)).drewN n).setCell ⟨b, 11, none⟩ (.int .i64 (s.sum + (sl - m))))) := Ot.setCell (S := (· = b)) (Ot.drewN (Ot.alloc (Ot.refl _ _) _) _) (Or.inl rfl) _
    have HBX : Hid ((((w.alloc (.cells #[.int .i64 x.a, .int .i64 x.l, .int .i64 x.f, .int .i64 x.b, .int .i64 x.m, .int .i64 x.n] 76)).drewN n).setCell ⟨b, 11, none⟩ (.int .i64 (s.sum + (sl - m)))).heap[w.heap.size]? = some (.cells #[.int .i64 x.a, .int .i64 x.l, .int .i64 x.f, .int .i64 x.b, .int .i64 x.m, .int .i64 x.n] 76 (0, 0))) := hbx
    have HHI := hits_any _ HR1.out hq (by show 0 ≤ s.since; exact hc0) (by show s.since ≤ _; exact hc1)
    obtain ⟨e1, e2, e3, e4⟩ := hitR_L q (sumR q s) hc0
    have HEL : Hid ((hitR q (sumR q s)).2.L = s.L) := e1
    obtain ⟨hh, hhe⟩ : ∃ hh, hitR q (sumR q s) = hh := ⟨_, rfl⟩
    have HPR : Hid (putR P R q s x = if hh.1 then if q.mrk then ({ hh.2 with L := (putF P R false s.L (marked x)).2 }, (putF P R false s.L (marked x)).1) else (hh.2, [x]) else ({ hh.2 with L := (putF P R false s.L x).2 }, (putF P R false s.L x).1)) := by show _ = _; rw [← hhe]; rfl
    rw [hhe] at HHI HEL
    obtain ⟨hit, s2⟩ := hh
    clear e1 e2 e3 e4 hhe hbx
    have HSZ : Hid (w.heap.size < (((w.alloc (.cells #[.int .i64 x.a, .int .i64 x.l, .int .i64 x.f, .int .i64 x.b, .int .i64 x.m, .int .i64 x.n] 76)).drewN n).setCell ⟨b, 11, none⟩ (.int .i64 (s.sum + (sl - m)))).heap.size) := lt_of_block HBX.out
    go_wp2_with (go_at_call 151; fail)
    refine HHI.mono ?_
    rintro e w2 ⟨rfl, tv2, hr2, hk2, ho2⟩
    have hbx2 : w2.heap[w.heap.size]? = some (.cells #[.int .i64 x.a, .int .i64 x.l, .int .i64 x.f, .int .i64 x.b, .int .i64 x.m, .int .i64 x.n] 76 (0, 0)) := by rw [ho2.block _ HSZ.out (by omega)]; exact HBX.out
    have HO2 : Hid (Ot (· = b) w w2) := HO1.out.trans ho2
    have HR2 : Hid (RedP w2 b P R q v tv2 s2) := hr2
    obtain ⟨⟨z0, z1, z2, z3, z4, z5⟩, y0, y1, y2, y3, y4, y5⟩ := six hbx2
    obtain ⟨⟨d5, d6, d7, d8, d9, d10, d11, d12⟩, g10, g11, g12⟩ := hr2.pos.cells
    have hb2 := LAt.lt hr2.pos
    have hw2 := lt_of_block hbx2
    clear ho2 hr2 HHI
    have HFP : Hid (∀ (W : World) (tv3 : Value) (s3 : RdS) (y : Hd), RedP W b P R q v tv3 s3 → s3.L = s.L → Fit (s.L ++ [y]) → Calls Tryz.prog 140 #[.pointer (some ⟨b, 0, none⟩), .int .i64 now, y.val] W fun e w' => ∃ u v', e = .returned u ∧ Hs w' u (putF P R false s.L y).1 ∧ RedP w' b P R q v' tv3 { s3 with L := (putF P R false s.L y).2 } ∧ (∀ k, v'.ownBlock = some k → v.ownBlock = some k ∨ W.heap.size ≤ k) ∧ (∀ k, u.ownBlock = some k → W.heap.size ≤ k) ∧ Ot (fun k => k = b ∨ v.ownBlock = some k) W w') := by
      intro W tv3 s3 y hr3 hL3 hF3
      have hp := hr3.pos
      unfold DRed at hp
      rw [hL3] at hp
      refine (fifo_put now y W hp hF3 hP hR hR1).mono ?_
      rintro e w' ⟨u, v', rfl, hu, hl, hk, hn', ho⟩
      exact ⟨u, v', rfl, hu, red_after hr3 hl hk ho, hk, hn', ho⟩
    cases hit with
    | true =>
      cases hmk : q.mrk with
      | false =>
        have hPR : putR P R q s x = (s2, [x]) := by rw [HPR.out, hmk]; rfl
        have HPP : Hid (putR P R q s x = (s2, [x])) := hPR
        clear hPR
        go_wp2
        go_ret
        rw [HPP.out]
        refine ⟨.slice (some ⟨w2.heap.size, 0, none⟩) 1 1, v, tv2, rfl, Hs.one (new_block_ (by simp)), HR2.out.below (below_alloc_ (Below.refl _ _) _), fun k hk => Or.inl hk, hk2, fun k hk => ?_, (HO2.out.mono (fun k _ h => Or.inl h)).alloc _⟩
        simp only [Value.ownBlock, Option.some.injEq] at hk
        subst hk
        exact HO2.out.size
      | true =>
        have hPR : putR P R q s x = ({ s2 with L := (putF P R false s.L (marked x)).2 }, (putF P R false s.L (marked x)).1) := by rw [HPR.out, hmk]; rfl
        have HPP : Hid (putR P R q s x = ({ s2 with L := (putF P R false s.L (marked x)).2 }, (putF P R false s.L (marked x)).1)) := hPR
        clear hPR
        have HFT : Hid (Fit (s.L ++ [marked x])) := ⟨by simpa using hF.1, fun y hy => by
          rcases List.mem_append.1 hy with h | h
          · exact hF.2 y (List.mem_append_left _ h)
          · simp at h; subst h; exact hF.2 x (by simp)⟩
        have HR3 : Hid (∀ n', RedP ((w2.setCell ⟨w.heap.size, 4, none⟩ (.int .i64 255)).drewN n') b P R q v tv2 s2) := fun n' => (HR2.out.kept (heap_other (b := w.heap.size) (by omega) rfl) (fun k hk => heap_other (b := w.heap.size) (by have := H.out.pos.row.lt hk; omega) rfl) (fun k hk => heap_other (b := w.heap.size) (by have := Seg.lt H.out.tape (by rw [← hk2, hk]); omega) rfl)).drewN n'
        have HVM : Hid ((marked x).val = .agg #[.int .i64 x.a, .int .i64 x.l, .int .i64 x.f, .int .i64 x.b, .int .i64 255, .int .i64 x.n]) := Hd.val_eq (marked x)
        go_wp2
        go_region_with (go_at_call 140; refine (HFP.out _ tv2 s2 (marked x) (HR3.out 1) HEL.out HFT.out).mono ?_; rintro e w4 ⟨u4, v4, rfl, hu4, hl4, hk4, hn4, ho4⟩)
        all_goals
          go_wp2
          go_ret
          rw [HPP.out]
          refine ⟨u4, v4, tv2, rfl, hu4, hl4, fun k hk => ?_, hk2, fun k hk => ?_, ?_⟩
          · rcases hk4 k hk with h | h
            · exact Or.inl h
            · exact Or.inr (by have := HO2.out.size; simp at h; omega)
          · have := hn4 k hk
            have h2 := HO2.out.size
            simp at this
            omega
          · exact Ot.trans (S := fun k => k = b ∨ v.ownBlock = some k) (show Ot _ w _ from by
              have hO := HO2.out.mono (T := fun k => k = b ∨ v.ownBlock = some k) (fun k _ h => Or.inl h)
              repeat' (first | with_reducible exact hO | with_reducible refine Ot.drewN ?_ _ | with_reducible refine Ot.setCell ?_ (by simp) _)) ho4
    | false =>
      have hPR : putR P R q s x = ({ s2 with L := (putF P R false s.L x).2 }, (putF P R false s.L x).1) := by rw [HPR.out]; rfl
      have HPP : Hid (putR P R q s x = ({ s2 with L := (putF P R false s.L x).2 }, (putF P R false s.L x).1)) := hPR
      clear hPR
      have HR3 : Hid (∀ n', RedP (w2.drewN n') b P R q v tv2 s2) := fun n' => HR2.out.drewN n'
      go_wp2
      go_region_with (go_at_call 140; refine (HFP.out _ tv2 s2 x (HR3.out 1) HEL.out hF).mono ?_; rintro e w4 ⟨u4, v4, rfl, hu4, hl4, hk4, hn4, ho4⟩)
      all_goals
        go_wp2
        go_ret
        rw [HPP.out]
        refine ⟨u4, v4, tv2, rfl, hu4, hl4, fun k hk => ?_, hk2, fun k hk => ?_, ?_⟩
        · rcases hk4 k hk with h | h
          · exact Or.inl h
          · exact Or.inr (by have := HO2.out.size; simp at h; omega)
        · have := hn4 k hk
          have h2 := HO2.out.size
          simp at this
          omega
        · exact Ot.trans (S := fun k => k = b ∨ v.ownBlock = some k) (show Ot _ w _ from by
            have hO := HO2.out.mono (T := fun k => k = b ∨ v.ownBlock = some k) (fun k _ h => Or.inl h)
            repeat' (first | with_reducible exact hO | with_reducible refine Ot.drewN ?_ _ | with_reducible refine Ot.setCell ?_ (by simp) _)) ho4
end Go.Proofs.YtfakjedolecdcaaGreatDoor
namespace Go.Proofs.YtfakjedolecdcaaGreatDoor

/-- Numbers that lie in memory. -/
def IRow (w : World) (x : Option Addr) (n : Nat) (f : Nat → Int) : Prop := n = 0 ∨ ∃ b off, x = some ⟨b, off, none⟩ ∧ b < w.heap.size ∧ ∀ i, i < n → w.cell? ⟨b, off + i, none⟩ = some (.int .i64 (f i))
/-- The block of such numbers, if it has any number. -/
def TB (px : Option Addr) (m k : Nat) : Prop := 0 < m ∧ ∃ a, px = some a ∧ a.block = k
theorem tb_lt {w : World} {px : Option Addr} {m k : Nat} {f : Nat → Int} (h : IRow w px m f) (hk : TB px m k) : k < w.heap.size := by
  obtain ⟨h0, a, rfl, rfl⟩ := hk
  rcases h with h | ⟨b, off, e, hb, _⟩
  · omega
  · simp at e; subst e; exact hb
end Go.Proofs.YtfakjedolecdcaaGreatDoor
namespace Go.Proofs.YtfakjedolecdcaaGreatDoor
open Go.RowKit Go.Extern.Stop Go.Stop Go.Extern

def tapeL (m : Nat) (f : Nat → Int) : List Int := (List.range m).map f
theorem tapeL_get {m : Nat} {f : Nat → Int} {j : Nat} (h : j < m) : (tapeL m f)[j]? = some (f j) := by
  unfold tapeL
  rw [List.getElem?_map, List.getElem?_range h]
  rfl
theorem tapeL_len (m : Nat) (f : Nat → Int) : (tapeL m f).length = m := by simp [tapeL]
theorem nilSomeI (a : Addr) (n c : Nat) (w : World) : (binOp .eql 22 (.slice (some a) n c) (.slice none 0 0)).run Tryz.prog w = .ok (.bool false) w := by kernel_rfl
theorem nilNoneI (w : World) : (binOp .eql 22 (.slice none 0 0) (.slice none 0 0)).run Tryz.prog w = .ok (.bool true) w := by kernel_rfl
theorem seg_emptyI {w : World} {b : Nat} (h : w.heap[b]? = some (.cells #[] 3 (0, 0))) : Seg w 3 1 (.slice (some ⟨b, 0, none⟩) 0 0) 0 [] := ⟨rfl, Or.inr ⟨b, 0, 0, #[], rfl, h, Nat.le_refl _, Nat.zero_le _, by simp, fun j u hj => by simp at hj⟩⟩
set_option maxHeartbeats 1000000 in
theorem cloneI {px : Option Addr} {m pcap : Nat} {f : Nat → Int} (w : World) (h : IRow w px m f) (hn : px = none → m = 0 ∧ pcap = 0) (hm : m ≤ 1000000) :
    Calls Tryz.prog 65 #[.slice px m pcap] w fun e w' => ∃ tv, e = .returned tv ∧ Ins w' tv (tapeL m f) ∧ (∀ k, tv.ownBlock = some k → w.heap.size ≤ k) ∧ Below w.heap.size w w' := by
  have hnS := nilSomeI
  have hnN := nilNoneI
  obtain ⟨i0, hi, hz0, hz1, hz2⟩ := info_parts infoInt1
  cases px with
  | none =>
    obtain ⟨rfl, rfl⟩ := hn rfl
    clear h hn
    go_enter Tryz.func65, Tryz.ntmps65
    go_wp2
    go_ret
    exact ⟨_, rfl, Ins.nil _, fun k hk => by simp [Value.ownBlock] at hk, Below.refl _ _⟩
  | some a =>
    by_cases hm0 : m = 0
    · subst hm0
      clear h hn
      go_enter Tryz.func65, Tryz.ntmps65
      go_wp2
      go_ret
      exact ⟨.slice (some ⟨w.heap.size, 0, none⟩) 0 0, rfl, seg_emptyI (new_block_ rfl), fun k hk => by simp [Value.ownBlock] at hk; omega, below_alloc_ (Below.refl _ _) _⟩
    · obtain ⟨pb, poff, hpa, hpb, hpc⟩ : ∃ b off, some a = some ⟨b, off, none⟩ ∧ b < w.heap.size ∧ ∀ i, i < m → w.cell? ⟨b, off + i, none⟩ = some (.int .i64 (f i)) := by
        rcases h with h | h
        · omega
        · exact h
      obtain rfl := Option.some.inj hpa
      have HC : Hid (∀ i, i < m → w.cell? ⟨pb, poff + i, none⟩ = some (.int .i64 (f i))) := hpc
      clear h hn hpc hpa
      go_enter Tryz.func65, Tryz.ntmps65
      go_wp2_with (at_builtin; refine wpList_append_seg _ rfl (.tmp 5) (.tmp 6) 22 rfl 3 i0 _ 1 8 Tryz.underlying22 hi hz0 hz1 hz2 rfl (by decide) (.slice (some ⟨w.heap.size, 0, none⟩) 0 0) 0 [] rfl (seg_emptyI (new_block_ rfl)) ⟨pb, poff, none⟩ m pcap ((tapeL m f).map (Value.int .i64)) rfl (by simp [tapeL]) (fun j u hj => by { rw [Addr.add_lit, World.cell?_alloc_lt _ _ _ (by exact hpb)]; rw [List.getElem?_map] at hj; obtain ⟨z, hz, rfl⟩ := Option.map_eq_some_iff.1 hj; have hjm : j < m := (by have := (List.getElem?_eq_some_iff.1 hz).1; rw [tapeL_len] at this; exact this); rw [tapeL_get hjm] at hz; rw [HC.out j hjm]; exact congrArg _ (congrArg _ (Option.some.inj hz)) }) (by simp [Value.oneCell']) (by omega) (by unfold maxLen; omega) (by omega) _ rfl ?_; intro g goff gcap w1 hs1 hg1 ha1 hl1)
      go_ret
      refine ⟨.slice (some ⟨g, goff, none⟩) m gcap, by simp, ?_, fun k hk => ?_, below_grown_ (below_alloc_ (Below.refl _ _) _) hg1 (fun k hk => by simp [Value.ownBlock] at hk; omega)⟩
      · unfold Ins
        rw [tapeL_len]
        simpa using hs1
      · simp only [Value.ownBlock, Option.some.injEq] at hk
        subst hk
        rcases ha1 with h | h
        · simp [Value.ownBlock] at h; omega
        · simp at h; omega
end Go.Proofs.YtfakjedolecdcaaGreatDoor
namespace Go.Proofs.YtfakjedolecdcaaGreatDoor
open Go.RowKit Go.Extern.Stop Go.Stop Go.Extern

def RSet.val (q : RSet) : Value := .agg #[.int .i64 q.lo, .int .i64 q.hi, .int .i64 q.often, .int .i64 q.sl, .bool q.mrk]
theorem RSet.val_eq (q : RSet) : q.val = .agg #[.int .i64 q.lo, .int .i64 q.hi, .int .i64 q.often, .int .i64 q.sl, .bool q.mrk] := rfl
set_option maxHeartbeats 1000000 in
theorem right_yes (q : RSet) (w : World) (h : q.Ok) : Calls Tryz.prog 64 #[q.val] w fun e w' => e = .returned (.bool true) ∧ Below w.heap.size w w' := by
  obtain ⟨h1, h2, h3, h4, h5, h6, h7⟩ := h
  rw [RSet.val_eq]
  go_enter Tryz.func64, Tryz.ntmps64
  go_wp2
  go_ret
  exact ⟨rfl, below_alloc_ (Below.refl _ _) _⟩
set_option maxHeartbeats 4000000 in
theorem right_no (q : RSet) (w : World) (h : ¬ q.Ok) : Calls Tryz.prog 64 #[q.val] w fun e w' => e = .returned (.bool false) ∧ Below w.heap.size w w' := by
  rw [RSet.val_eq]
  by_cases a1 : 0 ≤ q.lo ∧ q.lo < q.hi ∧ q.hi ≤ 1000000
  · obtain ⟨h1, h2, h3⟩ := a1
    by_cases a2 : 1 ≤ q.often ∧ q.often ≤ 1000
    · obtain ⟨h4, h5⟩ := a2
      have h67 : q.sl < 0 ∨ 10 < q.sl := by
        by_cases h6 : 0 ≤ q.sl
        · by_cases h7 : q.sl ≤ 10
          · exact absurd ⟨h1, h2, h3, h4, h5, h6, h7⟩ h
          · omega
        · omega
      clear h
      rcases h67 with h6 | h6
      · go_enter Tryz.func64, Tryz.ntmps64
        go_wp2
        all_goals
          go_ret
          exact ⟨rfl, below_alloc_ (Below.refl _ _) _⟩
      · have h6d : decide (q.sl ≤ 10) = false := by simp; omega
        go_enter Tryz.func64, Tryz.ntmps64
        go_wp2
        all_goals
          go_ret
          exact ⟨rfl, below_alloc_ (Below.refl _ _) _⟩
    · have h45 : q.often < 1 ∨ 1000 < q.often := by omega
      clear h a2
      rcases h45 with h6 | h6
      all_goals
        by_cases h7 : 0 ≤ q.sl
        all_goals
          go_enter Tryz.func64, Tryz.ntmps64
          go_wp2
          all_goals
            go_ret
            exact ⟨rfl, below_alloc_ (Below.refl _ _) _⟩
  · have h123 : q.lo < 0 ∨ (0 ≤ q.lo ∧ q.hi ≤ q.lo) ∨ (0 ≤ q.lo ∧ q.lo < q.hi ∧ 1000000 < q.hi) := by omega
    clear h a1
    by_cases h7 : 0 ≤ q.sl
    all_goals
      by_cases h8 : 1 ≤ q.often
      all_goals
        rcases h123 with h6 | ⟨h6, h9⟩ | ⟨h6, h9, h10⟩
        · go_enter Tryz.func64, Tryz.ntmps64
          go_wp2
          all_goals
            go_ret
            exact ⟨rfl, below_alloc_ (Below.refl _ _) _⟩
        · go_enter Tryz.func64, Tryz.ntmps64
          go_wp2
          all_goals
            go_ret
            exact ⟨rfl, below_alloc_ (Below.refl _ _) _⟩
        · have h6d : decide (q.hi ≤ 1000000) = false := by simp; omega
          go_enter Tryz.func64, Tryz.ntmps64
          go_wp2
          all_goals
            go_ret
            exact ⟨rfl, below_alloc_ (Below.refl _ _) _⟩
end Go.Proofs.YtfakjedolecdcaaGreatDoor
namespace Go.Proofs.YtfakjedolecdcaaGreatDoor
open Go.RowKit Go.Extern.Stop Go.Stop Go.Extern

/-- A queue as the interface has it, and what its methods tell of its state. -/
structure QM where
  σ : Type
  ty : TypeId
  rv : Value
  fP : FuncId
  fT : FuncId
  fW : FuncId
  fL : FuncId
  fB : FuncId
  rP : Value
  rT : Value
  rW : Value
  rL : Value
  rB : Value
  At : World → (Nat → Prop) → σ → Prop
  put : σ → Int → Hd → σ × List Hd
  take : σ → Int → σ × List Hd × Hd × Bool
  when : σ → Int → σ × Int × Bool
  len : σ → Int
  bytes : σ → Int
  inv : Int → Nat → σ → Prop
def Hd.ok (x : Hd) : Bool := It.ok ⟨x.a, x.l, x.f, x.b, x.m⟩
/-- The methods do so. -/
structure QM.Fine (M : QM) : Prop where
  kept : ∀ {w w' : World} {F : Nat → Prop} {s : M.σ}, M.At w F s → (∀ k, F k → w'.heap[k]? = w.heap[k]?) → M.At w' F s
  low : ∀ {w : World} {F : Nat → Prop} {s : M.σ}, M.At w F s → ∀ k, F k → k < w.heap.size
  mP : ∀ W : World, (Go.method 395 M.ty M.rv "Put").run Tryz.prog W = .ok (M.fP, M.rP) W
  mT : ∀ W : World, (Go.method 395 M.ty M.rv "Take").run Tryz.prog W = .ok (M.fT, M.rT) W
  mW : ∀ W : World, (Go.method 395 M.ty M.rv "When").run Tryz.prog W = .ok (M.fW, M.rW) W
  mL : ∀ W : World, (Go.method 395 M.ty M.rv "Len").run Tryz.prog W = .ok (M.fL, M.rL) W
  mB : ∀ W : World, (Go.method 395 M.ty M.rv "Bytes").run Tryz.prog W = .ok (M.fB, M.rB) W
  eP : ∀ (args : Array Value) (W : World), (callFunc M.fP args).run Tryz.prog W = .ok (.enter M.fP args) W
  eT : ∀ (args : Array Value) (W : World), (callFunc M.fT args).run Tryz.prog W = .ok (.enter M.fT args) W
  eW : ∀ (args : Array Value) (W : World), (callFunc M.fW args).run Tryz.prog W = .ok (.enter M.fW args) W
  eL : ∀ (args : Array Value) (W : World), (callFunc M.fL args).run Tryz.prog W = .ok (.enter M.fL args) W
  eB : ∀ (args : Array Value) (W : World), (callFunc M.fB args).run Tryz.prog W = .ok (.enter M.fB args) W
  cP : ∀ {w : World} {F : Nat → Prop} {s : M.σ} {t : Int} {n : Nat} (now : Int) (x : Hd), M.At w F s → M.inv t n s → 0 ≤ t → t ≤ now → now ≤ 20000000 → x.ok = true → x.a = now → x.n = n → n ≤ 1000 →
    Calls Tryz.prog M.fP #[M.rP, .int .i64 now, x.val] w fun e w' => ∃ u F', e = .returned u ∧ Hs w' u (M.put s now x).2 ∧ M.At w' F' (M.put s now x).1 ∧ (∀ k, F' k → F k ∨ w.heap.size ≤ k) ∧ (∀ k, u.ownBlock = some k → F k ∨ w.heap.size ≤ k) ∧ Ot F w w'
  iP : ∀ {s : M.σ} {t : Int} {n : Nat} (now : Int) (x : Hd), M.inv t n s → 0 ≤ t → t ≤ now → now ≤ 20000000 → x.ok = true → x.a = now → x.n = n → n ≤ 1000 → M.inv now (n + 1) (M.put s now x).1 ∧ (M.put s now x).2.length ≤ 1000000
  cT : ∀ {w : World} {F : Nat → Prop} {s : M.σ} {t : Int} {n : Nat} (now : Int), M.At w F s → M.inv t n s → 0 ≤ t → t ≤ now → now ≤ 20000000 → n ≤ 1000 →
    Calls Tryz.prog M.fT #[M.rT, .int .i64 now] w fun e w' => ∃ u F', e = .returned (.tuple #[(M.take s now).2.2.1.val, u, .bool (M.take s now).2.2.2]) ∧ Hs w' u (M.take s now).2.1 ∧ M.At w' F' (M.take s now).1 ∧ (∀ k, F' k → F k ∨ w.heap.size ≤ k) ∧ (∀ k, u.ownBlock = some k → F k ∨ w.heap.size ≤ k) ∧ Ot F w w'
  iT : ∀ {s : M.σ} {t : Int} {n : Nat} (now : Int), M.inv t n s → 0 ≤ t → t ≤ now → now ≤ 20000000 → n ≤ 1000 → M.inv now n (M.take s now).1 ∧ (M.take s now).2.1.length ≤ 1000000
  cW : ∀ {w : World} {F : Nat → Prop} {s : M.σ} {t : Int} {n : Nat} (now : Int), M.At w F s → M.inv t n s → 0 ≤ t → t ≤ now → now ≤ 20000000 → n ≤ 1000 →
    Calls Tryz.prog M.fW #[M.rW, .int .i64 now] w fun e w' => ∃ F', e = .returned (.tuple #[.int .i64 (M.when s now).2.1, .bool (M.when s now).2.2]) ∧ M.At w' F' (M.when s now).1 ∧ (∀ k, F' k → F k ∨ w.heap.size ≤ k) ∧ Ot F w w'
  iW : ∀ {s : M.σ} {t : Int} {n : Nat} (now : Int), M.inv t n s → 0 ≤ t → t ≤ now → now ≤ 20000000 → n ≤ 1000 → M.inv now n (M.when s now).1
  cL : ∀ {w : World} {F : Nat → Prop} {s : M.σ} {t : Int} {n : Nat}, M.At w F s → M.inv t n s → n ≤ 1001 → Calls Tryz.prog M.fL #[M.rL] w fun e w' => e = .returned (.int .i64 (M.len s)) ∧ Below w.heap.size w w'
  cB : ∀ {w : World} {F : Nat → Prop} {s : M.σ} {t : Int} {n : Nat}, M.At w F s → M.inv t n s → n ≤ 1001 → Calls Tryz.prog M.fB #[M.rB] w fun e w' => e = .returned (.int .i64 (M.bytes s)) ∧ Below w.heap.size w w'

/-- What a step told: which was taken, its mark, when, how many wait, how many bytes, which were lost. -/
structure Sn where
  taken : Int
  mark : Int
  when : Int
  len : Int
  bytes : Int
  lost : List Int
def Sn.cs (p : Sn × Value) : List Value := [.int .i64 p.1.taken, .int .i64 p.1.mark, .int .i64 p.1.when, .int .i64 p.1.len, .int .i64 p.1.bytes, p.2]
theorem Sn.len6 (p : Sn × Value) : (Sn.cs p).length = 6 := rfl
def hdOf (st : Stp) (n : Nat) : Hd := ⟨st.a, st.l, st.f, st.b, st.m, n⟩
/-- One step. -/
def stepQ (M : QM) (s : M.σ) (n : Nat) (st : Stp) : (M.σ × Nat) × Sn :=
  if st.what = 0 then (((M.put s st.lt (hdOf st n)).1, n + 1), ⟨-1, 0, -1, M.len (M.put s st.lt (hdOf st n)).1, M.bytes (M.put s st.lt (hdOf st n)).1, (M.put s st.lt (hdOf st n)).2.map Hd.n⟩)
  else if st.what = 1 then (((M.take s st.lt).1, n), ⟨if (M.take s st.lt).2.2.2 then (M.take s st.lt).2.2.1.n else -1, if (M.take s st.lt).2.2.2 then (M.take s st.lt).2.2.1.m else 0, -1, M.len (M.take s st.lt).1, M.bytes (M.take s st.lt).1, (M.take s st.lt).2.1.map Hd.n⟩)
  else (((M.when s st.lt).1, n), ⟨-1, 0, if (M.when s st.lt).2.2 then (M.when s st.lt).2.1 else -1, M.len (M.when s st.lt).1, M.bytes (M.when s st.lt).1, []⟩)
def stFrom (M : QM) : M.σ → Nat → List Stp → Nat → M.σ × Nat
  | s, n, _, 0 => (s, n)
  | s, n, [], _ + 1 => (s, n)
  | s, n, st :: r, k + 1 => stFrom M (stepQ M s n st).1.1 (stepQ M s n st).1.2 r k
def playFrom (M : QM) : M.σ → Nat → List Stp → List Sn
  | _, _, [] => []
  | s, n, st :: r => (stepQ M s n st).2 :: playFrom M (stepQ M s n st).1.1 (stepQ M s n st).1.2 r
theorem stFrom_zero (M : QM) (s : M.σ) (n : Nat) (xs : List Stp) : stFrom M s n xs 0 = (s, n) := by cases xs <;> rfl
theorem stFrom_succ {M : QM} {s : M.σ} {n : Nat} {xs : List Stp} {k : Nat} {st : Stp} (h : xs[k]? = some st) : stFrom M s n xs (k + 1) = (stepQ M (stFrom M s n xs k).1 (stFrom M s n xs k).2 st).1 := by
  induction xs generalizing s n k with
  | nil => simp at h
  | cons y r ih =>
    cases k with
    | zero =>
      simp at h; subst h
      simp [stFrom]
    | succ k => simpa [stFrom] using ih (s := (stepQ M s n y).1.1) (n := (stepQ M s n y).1.2) (by simpa using h)
theorem playFrom_length (M : QM) (s : M.σ) (n : Nat) (xs : List Stp) : (playFrom M s n xs).length = xs.length := by
  induction xs generalizing s n with
  | nil => rfl
  | cons y r ih => simp [playFrom, ih]
theorem playFrom_at {M : QM} {s : M.σ} {n : Nat} {xs : List Stp} {k : Nat} {st : Stp} (h : xs[k]? = some st) : (playFrom M s n xs)[k]? = some (stepQ M (stFrom M s n xs k).1 (stFrom M s n xs k).2 st).2 := by
  induction xs generalizing s n k with
  | nil => simp at h
  | cons y r ih =>
    cases k with
    | zero => simp at h; subst h; simp [playFrom, stFrom]
    | succ k => simpa [playFrom, stFrom] using ih (s := (stepQ M s n y).1.1) (n := (stepQ M s n y).1.2) (by simpa using h)
theorem stFrom_le (M : QM) (s : M.σ) (n : Nat) (xs : List Stp) (k : Nat) : (stFrom M s n xs k).2 ≤ n + k := by
  induction xs generalizing s n k with
  | nil => cases k <;> simp [stFrom]
  | cons y r ih =>
    cases k with
    | zero => simp [stFrom]
    | succ k =>
      have := ih (stepQ M s n y).1.1 (stepQ M s n y).1.2 k
      have h2 : (stepQ M s n y).1.2 ≤ n + 1 := by unfold stepQ; split; exact Nat.le_refl _; split <;> exact Nat.le_succ _
      simp only [stFrom]
      omega
theorem timed_lt (t : Int) (s : Stp) : (timed t s).lt = t ∧ (timed t s).a = t := ⟨rfl, rfl⟩
theorem timed_ok {t : Int} {s : Stp} (h : (timed t s).what = 0) : It.ok ⟨t, s.l, s.f, s.b, s.m⟩ = true := by
  cases hok : It.ok ⟨t, s.l, s.f, s.b, s.m⟩ with
  | true => rfl
  | false =>
    exfalso
    simp only [timed, hok, and_true] at h
    by_cases hw : s.what = 0
    · rw [if_pos hw] at h; omega
    · rw [if_neg hw] at h; exact hw h
/-- What is seen of the first k steps. -/
def Psn (M : QM) (s0 : M.σ) (ts : List Stp) (k : Nat) : List Sn := (playFrom M s0 0 ts).take k
theorem Psn_succ {M : QM} {s0 : M.σ} {ts : List Stp} {k : Nat} {st : Stp} (h : ts[k]? = some st) : Psn M s0 ts (k + 1) = Psn M s0 ts k ++ [(stepQ M (stFrom M s0 0 ts k).1 (stFrom M s0 0 ts k).2 st).2] := by
  unfold Psn
  rw [List.take_add_one, playFrom_at h]
  rfl
theorem Psn_length {M : QM} {s0 : M.σ} {ts : List Stp} {k : Nat} (h : k ≤ ts.length) : (Psn M s0 ts k).length = k := by simp [Psn, playFrom_length]; omega
theorem Psn_all (M : QM) (s0 : M.σ) (ts : List Stp) : Psn M s0 ts ts.length = playFrom M s0 0 ts := by rw [Psn, List.take_of_length_le (by rw [playFrom_length]; exact Nat.le_refl _)]

/-- What was seen lies in memory of the call's own, from block base on, apart from F. -/
structure Sns (w : World) (base : Nat) (F : Nat → Prop) (v : Value) (ss : List Sn) (us : List Value) : Prop where
  len : us.length = ss.length
  row : Seg w 72 6 v ss.length (flt Sn.cs (ss.zip us))
  new : ∀ b, v.ownBlock = some b → base ≤ b ∧ ¬ F b
  lost : ∀ (i : Nat) (sn : Sn) (u : Value), ss[i]? = some sn → us[i]? = some u → Ins w u sn.lost ∧ ∀ b, u.ownBlock = some b → base ≤ b ∧ ¬ F b
theorem Sns.nil (w : World) (base : Nat) (F : Nat → Prop) : Sns w base F (.slice none 0 0) [] [] := ⟨rfl, Seg.nil _ _ _, fun b hb => by simp [Value.ownBlock] at hb, fun i sn u h => by simp at h⟩
theorem Sns.ot {w w' : World} {base : Nat} {F F' G : Nat → Prop} {v : Value} {ss : List Sn} {us : List Value} (h : Sns w base F v ss us) (ho : Ot G w w') (hG : ∀ k, base ≤ k → k < w.heap.size → ¬ F k → ¬ G k) (hF : ∀ k, k < w.heap.size → F' k → F k) : Sns w' base F' v ss us := by
  refine ⟨h.len, Seg.oth h.row ho (fun b hb => hG b (h.new b hb).1 (h.row.lt hb) (h.new b hb).2), fun b hb => ⟨(h.new b hb).1, fun x => (h.new b hb).2 (hF b (h.row.lt hb) x)⟩, ?_⟩
  intro i sn u h1 h2
  obtain ⟨h3, h4⟩ := h.lost i sn u h1 h2
  exact ⟨Seg.oth h3 ho (fun b hb => hG b (h4 b hb).1 (Seg.lt h3 hb) (h4 b hb).2), fun b hb => ⟨(h4 b hb).1, fun x => (h4 b hb).2 (hF b (Seg.lt h3 hb) x)⟩⟩
end Go.Proofs.YtfakjedolecdcaaGreatDoor
