/-
  early.Red: what Put does. Conditions: the queue lies in memory; numbers within bounds; few packets.
  Numbers that lie in memory. Nothing is claimed here by itself.
  early.New: an empty Red in memory of its own, where room and setup may be and the tape is not too long; else the error. Conditions: the tape lies in memory.
  early.New: an empty Red in memory of its own, where room and setup may be and the tape is not too long; else the error. Conditions: the tape lies in memory.
  A slice of numbers, and a setup, read off arguments. Nothing is claimed here by itself.
-/
import Derived.Test.YtfakjedolecdcaaGreatDoorU5
import Derived.Test.YtfakjedolecdcaaGreatDoorU2
namespace Go.Proofs.YtfakjedolecdcaaGreatDoor
open Go.RowKit Go.Extern.Stop Go.Stop Go.Extern

/-- The mean goes on. -/
def sumR (q : RSet) (s : RdS) : RdS := { s with sum := s.sum + (sumL s.L - meanR q s.sum) }
def marked (x : Hd) : Hd := { x with m := 255 }
/-- What Put leaves, and what it throws away. -/
def putR (P R : Int) (q : RSet) (s : RdS) (x : Hd) : RdS × List Hd :=
  if (hitR q (sumR q s)).1 then
    if q.mrk then ({ (hitR q (sumR q s)).2 with L := (putF P R false s.L (marked x)).2 }, (putF P R false s.L (marked x)).1)
    else ((hitR q (sumR q s)).2, [x])
  else ({ (hitR q (sumR q s)).2 with L := (putF P R false s.L x).2 }, (putF P R false s.L x).1)
theorem decR_L (q : RSet) (s : RdS) (m : Int) : (decR q s m).2.L = s.L ∧ (decR q s m).2.sum = s.sum ∧ s.since ≤ (decR q s m).2.since ∧ (decR q s m).2.since ≤ s.since + 1 := by
  unfold decR
  split
  · exact ⟨rfl, rfl, Int.le_refl _, by show s.since ≤ s.since + 1; omega⟩
  · exact ⟨rfl, rfl, by show s.since ≤ s.since + 1; omega, Int.le_refl _⟩
theorem hitR_L (q : RSet) (s : RdS) (h : 0 ≤ s.since) : (hitR q s).2.L = s.L ∧ (hitR q s).2.sum = s.sum ∧ 0 ≤ (hitR q s).2.since ∧ (hitR q s).2.since ≤ s.since + 1 := by
  obtain ⟨h1, h2, h3, h4⟩ := decR_L q s (meanR q s.sum)
  unfold hitR
  split
  · exact ⟨rfl, rfl, Int.le_refl _, by show (0 : Int) ≤ _; omega⟩
  · split
    · exact ⟨rfl, rfl, Int.le_refl _, by show (0 : Int) ≤ _; omega⟩
    · show (if _ then _ else _ : RdS).L = _ ∧ _
      split
      · exact ⟨h1, h2, Int.le_refl _, by show (0 : Int) ≤ _; omega⟩
      · exact ⟨h1, h2, Int.le_trans h h3, h4⟩
theorem RedP.below {w w' : World} {b : Nat} {P R : Int} {q : RSet} {v tv : Value} {s : RdS} (h : RedP w b P R q v tv s) (hb : Below w.heap.size w w') : RedP w' b P R q v tv s := h.kept (hb.block b (LAt.lt h.pos)) (fun k hk => hb.block k (h.pos.row.lt hk)) (fun k hk => hb.block k (Seg.lt h.tape hk))
theorem red_after {w2 w' : World} {b : Nat} {P R : Int} {q : RSet} {v v' tv : Value} {s : RdS} {L' : List Hd} (hr : RedP w2 b P R q v tv s) (hl : LAt w' b 152 (frest P R false (rmore q tv s)) v' L') (hk : ∀ k, v'.ownBlock = some k → v.ownBlock = some k ∨ w2.heap.size ≤ k) (ho : Ot (fun k => k = b ∨ v.ownBlock = some k) w2 w') : RedP w' b P R q v' tv { s with L := L' } := by
  refine ⟨hl, Seg.oth hr.tape ho (fun k hk' h => ?_), hr.tb, fun k hk' e => ?_⟩
  · rcases h with rfl | h
    · exact hr.tb hk'
    · exact hr.tvv k hk' h
  · rcases hk k e with h | h
    · exact hr.tvv k hk' h
    · have := Seg.lt hr.tape hk'; omega
set_option maxRecDepth 20000 in
set_option maxHeartbeats 2000000 in
theorem rput_any {b : Nat} {P R : Int} {q : RSet} {v tv : Value} {s : RdS} (now : Int) (x : Hd) (w : World) (h : RedP w b P R q v tv s) (hq : q.Ok) (hF : Fit (s.L ++ [x])) (hP : 0 ≤ P) (hR : 0 ≤ R) (hR1 : R ≤ 1000000) (hc0 : 0 ≤ s.since) (hc1 : s.since ≤ 100000) (h0 : 0 ≤ s.sum) (h1 : s.sum ≤ 1000000000000) :
    Calls Tryz.prog 149 #[.pointer (some ⟨b, 0, none⟩), .int .i64 now, x.val] w fun e w' => ∃ u v' tv', e = .returned u ∧ Hs w' u (putR P R q s x).2 ∧ RedP w' b P R q v' tv' (putR P R q s x).1 ∧ (∀ k, v'.ownBlock = some k → v.ownBlock = some k ∨ w.heap.size ≤ k) ∧ tv'.ownBlock = tv.ownBlock ∧ (∀ k, u.ownBlock = some k → w.heap.size ≤ k) ∧ Ot (fun k => k = b ∨ v.ownBlock = some k) w w' := by
  have H : Hid (RedP w b P R q v tv s) := h
  have hb := LAt.lt h.pos
  have hV := Hd.val_eq
  have HA : Hid (∀ (o : Obj) (n : Nat), RedP ((w.alloc o).drewN n) b P R q v tv s) := fun o n => (h.below (below_alloc_ (Below.refl _ _) _)).drewN n
  obtain ⟨⟨c5, c6, c7, c8, c9, c10, c11, c12⟩, f10, f11, f12⟩ := h.pos.cells
  have hsl := Fit.sum hF.pref.2
  have hfl := hF.1
  obtain ⟨sl, hsl'⟩ : ∃ sl, sumL s.L = sl := ⟨_, rfl⟩
  have hmb := meanR_bd q h0
  obtain ⟨m, hm⟩ : ∃ m, meanR q s.sum = m := ⟨_, rfl⟩
  rw [hm] at hmb
  have hsl2 : 0 ≤ sl ∧ sl ≤ 10000000000 := by rw [hsl'] at hsl; simp at hfl; omega
  have HSM : Hid (sumR q s = { s with sum := s.sum + (sl - m) }) := by show _ = _; rw [sumR, hsl', hm]
  have HBY : Hid (∀ W : World, RedP W b P R q v tv s → Calls Tryz.prog 138 #[.pointer (some ⟨b, 0, none⟩)] W fun e w' => e = .returned (.int .i64 sl) ∧ w' = W) := fun W hW => by
    have := bytes_any W hW.pos
    rw [hsl'] at this
    exact this
  have HME : Hid (∀ W : World, RedP W b P R q v tv s → Calls Tryz.prog 150 #[.pointer (some ⟨b, 0, none⟩)] W fun e w' => e = .returned (.int .i64 m) ∧ ∃ n, w' = W.drewN n) := fun W hW => by
    have := mean_any W hW.pos hq
    rw [hm] at this
    exact this
  have hwA : IntKind.i64.wrap (sl - m) = sl - m := by rw [IntKind.wrap_i64]; omega
  have hwB : IntKind.i64.wrap (s.sum + (sl - m)) = s.sum + (sl - m) := by rw [IntKind.wrap_i64]; omega
  clear h hsl hsl' hm
  go_enter Tryz.func149, Tryz.ntmps149
  go_upto_region 1 with (fail)
  go_cut [] (fun wc => ∃ n, wc = ((w.alloc (.cells #[.int .i64 x.a, .int .i64 x.l, .int .i64 x.f, .int .i64 x.b, .int .i64 x.m, .int .i64 x.n] 76)).drewN n).setCell ⟨b, 11, none⟩ (.int .i64 (s.sum + (sl - m))))
  case first =>
    go_region_with (first | (go_at_call 138; refine (HBY.out _ (HA.out _ _)).mono ?_; rintro e w1 ⟨rfl, hw1⟩; subst hw1) | (go_at_call 150; refine (HME.out _ (HA.out _ _)).mono ?_; rintro e w1 ⟨rfl, n1, hw1⟩; subst hw1))
    all_goals
      go_wp2
      go_meet
      case rel => exact ⟨_, rfl⟩
  case rest =>
    obtain ⟨n, rfl⟩ := hcut
    have HR1 : Hid (RedP (((w.alloc (.cells #[.int .i64 x.a, .int .i64 x.l, .int .i64 x.f, .int .i64 x.b, .int .i64 x.m, .int .i64 x.n] 76)).drewN n).setCell ⟨b, 11, none⟩ (.int .i64 (s.sum + (sl - m)))) b P R q v tv (sumR q s)) := by
      show RedP _ _ _ _ _ _ _ _
      rw [HSM.out]
      exact (HA.out _ n).sum _
    have hbx : (((w.alloc (.cells #[.int .i64 x.a, .int .i64 x.l, .int .i64 x.f, .int .i64 x.b, .int .i64 x.m, .int .i64 x.n] 76)).drewN n).setCell ⟨b, 11, none⟩ (.int .i64 (s.sum + (sl - m)))).heap[w.heap.size]? = some (.cells #[.int .i64 x.a, .int .i64 x.l, .int .i64 x.f, .int .i64 x.b, .int .i64 x.m, .int .i64 x.n] 76 (0, 0)) := heap_other (by omega) (heap_drew (new_block w _))
    have HO1 : Hid (Ot (· = b) w (((w.alloc (.cells #[.int .i64 x.a, .int .i64 x.l, .int .i64 x.f, .int .i64 x.b, .int .i64 x.m, .int .i64 x.n] 76)).drewN n).setCell ⟨b, 11, none⟩ (.int .i64 (s.sum + (sl - m))))) := Ot.setCell (S := (· = b)) (Ot.drewN (Ot.alloc (Ot.refl _ _) _) _) (Or.inl rfl) _
    have HBX : Hid ((((w.alloc (.cells #[.int .i64 x.a, .int .i64 x.l, .int .i64 x.f, .int .i64 x.b, .int .i64 x.m, .int .i64 x.n] 76)).drewN n).setCell ⟨b, 11, none⟩ (.int .i64 (s.sum + (sl - m)))).heap[w.heap.size]? = some (.cells #[.int .i64 x.a, .int .i64 x.l, .int .i64 x.f, .int .i64 x.b, .int .i64 x.m, .int .i64 x.n] 76 (0, 0))) := hbx
    have HHI := hits_any _ HR1.out hq (by show 0 ≤ s.since; exact hc0) (by show s.since ≤ _; exact hc1)
    obtain ⟨e1, e2, e3, e4⟩ := hitR_L q (sumR q s) hc0
    have HEL : Hid ((hitR q (sumR q s)).2.L = s.L) := e1
    obtain ⟨hh, hhe⟩ : ∃ hh, hitR q (sumR q s) = hh := ⟨_, rfl⟩
    have HPR : Hid (putR P R q s x = if hh.1 then if q.mrk then ({ hh.2 with L := (putF P R false s.L (marked x)).2 }, (putF P R false s.L (marked x)).1) else (hh.2, [x]) else ({ hh.2 with L := (putF P R false s.L x).2 }, (putF P R false s.L x).1)) := by show _ = _; rw [← hhe]; rfl
    rw [hhe] at HHI HEL
    obtain ⟨hit, s2⟩ := hh
    clear e1 e2 e3 e4 hhe hbx
    have HSZ : Hid (w.heap.size < (((w.alloc (.cells #[.int .i64 x.a, .int .i64 x.l, .int .i64 x.f, .int .i64 x.b, .int .i64 x.m, .int .i64 x.n] 76)).drewN n).setCell ⟨b, 11, none⟩ (.int .i64 (s.sum + (sl - m)))).heap.size) := lt_of_block HBX.out
    go_wp2_with (go_at_call 151; fail)
    refine HHI.mono ?_
    rintro e w2 ⟨rfl, tv2, hr2, hk2, ho2⟩
    have hbx2 : w2.heap[w.heap.size]? = some (.cells #[.int .i64 x.a, .int .i64 x.l, .int .i64 x.f, .int .i64 x.b, .int .i64 x.m, .int .i64 x.n] 76 (0, 0)) := by rw [ho2.block _ HSZ.out (by omega)]; exact HBX.out
    have HO2 : Hid (Ot (· = b) w w2) := HO1.out.trans ho2
    have HR2 : Hid (RedP w2 b P R q v tv2 s2) := hr2
    obtain ⟨⟨z0, z1, z2, z3, z4, z5⟩, y0, y1, y2, y3, y4, y5⟩ := six hbx2
    obtain ⟨⟨d5, d6, d7, d8, d9, d10, d11, d12⟩, g10, g11, g12⟩ := hr2.pos.cells
    have hb2 := LAt.lt hr2.pos
    have hw2 := lt_of_block hbx2
    clear ho2 hr2 HHI
    have HFP : Hid (∀ (W : World) (tv3 : Value) (s3 : RdS) (y : Hd), RedP W b P R q v tv3 s3 → s3.L = s.L → Fit (s.L ++ [y]) → Calls Tryz.prog 140 #[.pointer (some ⟨b, 0, none⟩), .int .i64 now, y.val] W fun e w' => ∃ u v', e = .returned u ∧ Hs w' u (putF P R false s.L y).1 ∧ RedP w' b P R q v' tv3 { s3 with L := (putF P R false s.L y).2 } ∧ (∀ k, v'.ownBlock = some k → v.ownBlock = some k ∨ W.heap.size ≤ k) ∧ (∀ k, u.ownBlock = some k → W.heap.size ≤ k) ∧ Ot (fun k => k = b ∨ v.ownBlock = some k) W w') := by
      intro W tv3 s3 y hr3 hL3 hF3
      have hp := hr3.pos
      unfold DRed at hp
      rw [hL3] at hp
      refine (fifo_put now y W hp hF3 hP hR hR1).mono ?_
      rintro e w' ⟨u, v', rfl, hu, hl, hk, hn', ho⟩
      exact ⟨u, v', rfl, hu, red_after hr3 hl hk ho, hk, hn', ho⟩
    cases hit with
    | true =>
      cases hmk : q.mrk with
      | false =>
        have hPR : putR P R q s x = (s2, [x]) := by rw [HPR.out, hmk]; rfl
        have HPP : Hid (putR P R q s x = (s2, [x])) := hPR
        clear hPR
        go_wp2
        go_ret
        rw [HPP.out]
        refine ⟨.slice (some ⟨w2.heap.size, 0, none⟩) 1 1, v, tv2, rfl, Hs.one (new_block_ (by simp)), HR2.out.below (below_alloc_ (Below.refl _ _) _), fun k hk => Or.inl hk, hk2, fun k hk => ?_, (HO2.out.mono (fun k _ h => Or.inl h)).alloc _⟩
        simp only [Value.ownBlock, Option.some.injEq] at hk
        subst hk
        exact HO2.out.size
      | true =>
        have hPR : putR P R q s x = ({ s2 with L := (putF P R false s.L (marked x)).2 }, (putF P R false s.L (marked x)).1) := by rw [HPR.out, hmk]; rfl
        have HPP : Hid (putR P R q s x = ({ s2 with L := (putF P R false s.L (marked x)).2 }, (putF P R false s.L (marked x)).1)) := hPR
        clear hPR
        have HFT : Hid (Fit (s.L ++ [marked x])) := ⟨by simpa using hF.1, fun y hy => by
          rcases List.mem_append.1 hy with h | h
          · exact hF.2 y (List.mem_append_left _ h)
          · simp at h; subst h; exact hF.2 x (by simp)⟩
        have HR3 : Hid (∀ n', RedP ((w2.setCell ⟨w.heap.size, 4, none⟩ (.int .i64 255)).drewN n') b P R q v tv2 s2) := fun n' => (HR2.out.kept (heap_other (b := w.heap.size) (by omega) rfl) (fun k hk => heap_other (b := w.heap.size) (by have := H.out.pos.row.lt hk; omega) rfl) (fun k hk => heap_other (b := w.heap.size) (by have := Seg.lt H.out.tape (by rw [← hk2, hk]); omega) rfl)).drewN n'
        have HVM : Hid ((marked x).val = .agg #[.int .i64 x.a, .int .i64 x.l, .int .i64 x.f, .int .i64 x.b, .int .i64 255, .int .i64 x.n]) := Hd.val_eq (marked x)
        go_wp2
        go_region_with (go_at_call 140; refine (HFP.out _ tv2 s2 (marked x) (HR3.out 1) HEL.out HFT.out).mono ?_; rintro e w4 ⟨u4, v4, rfl, hu4, hl4, hk4, hn4, ho4⟩)
        all_goals
          go_wp2
          go_ret
          rw [HPP.out]
          refine ⟨u4, v4, tv2, rfl, hu4, hl4, fun k hk => ?_, hk2, fun k hk => ?_, ?_⟩
          · rcases hk4 k hk with h | h
            · exact Or.inl h
            · exact Or.inr (by have := HO2.out.size; simp at h; omega)
          · have := hn4 k hk
            have h2 := HO2.out.size
            simp at this
            omega
          · exact Ot.trans (S := fun k => k = b ∨ v.ownBlock = some k) (show Ot _ w _ from by
              have hO := HO2.out.mono (T := fun k => k = b ∨ v.ownBlock = some k) (fun k _ h => Or.inl h)
              repeat' (first | with_reducible exact hO | with_reducible refine Ot.drewN ?_ _ | with_reducible refine Ot.setCell ?_ (by simp) _)) ho4
    | false =>
      have hPR : putR P R q s x = ({ s2 with L := (putF P R false s.L x).2 }, (putF P R false s.L x).1) := by rw [HPR.out]; rfl
      have HPP : Hid (putR P R q s x = ({ s2 with L := (putF P R false s.L x).2 }, (putF P R false s.L x).1)) := hPR
      clear hPR
      have HR3 : Hid (∀ n', RedP (w2.drewN n') b P R q v tv2 s2) := fun n' => HR2.out.drewN n'
      go_wp2
      go_region_with (go_at_call 140; refine (HFP.out _ tv2 s2 x (HR3.out 1) HEL.out hF).mono ?_; rintro e w4 ⟨u4, v4, rfl, hu4, hl4, hk4, hn4, ho4⟩)
      all_goals
        go_wp2
        go_ret
        rw [HPP.out]
        refine ⟨u4, v4, tv2, rfl, hu4, hl4, fun k hk => ?_, hk2, fun k hk => ?_, ?_⟩
        · rcases hk4 k hk with h | h
          · exact Or.inl h
          · exact Or.inr (by have := HO2.out.size; simp at h; omega)
        · have := hn4 k hk
          have h2 := HO2.out.size
          simp at this
          omega
        · exact Ot.trans (S := fun k => k = b ∨ v.ownBlock = some k) (show Ot _ w _ from by
            have hO := HO2.out.mono (T := fun k => k = b ∨ v.ownBlock = some k) (fun k _ h => Or.inl h)
            repeat' (first | with_reducible exact hO | with_reducible refine Ot.drewN ?_ _ | with_reducible refine Ot.setCell ?_ (by simp) _)) ho4
end Go.Proofs.YtfakjedolecdcaaGreatDoor
namespace Go.Proofs.YtfakjedolecdcaaGreatDoor

/-- Numbers that lie in memory. -/
def IRow (w : World) (x : Option Addr) (n : Nat) (f : Nat → Int) : Prop := n = 0 ∨ ∃ b off, x = some ⟨b, off, none⟩ ∧ b < w.heap.size ∧ ∀ i, i < n → w.cell? ⟨b, off + i, none⟩ = some (.int .i64 (f i))
/-- The block of such numbers, if it has any number. -/
def TB (px : Option Addr) (m k : Nat) : Prop := 0 < m ∧ ∃ a, px = some a ∧ a.block = k
theorem tb_lt {w : World} {px : Option Addr} {m k : Nat} {f : Nat → Int} (h : IRow w px m f) (hk : TB px m k) : k < w.heap.size := by
  obtain ⟨h0, a, rfl, rfl⟩ := hk
  rcases h with h | ⟨b, off, e, hb, _⟩
  · omega
  · simp at e; subst e; exact hb
end Go.Proofs.YtfakjedolecdcaaGreatDoor
namespace Go.Proofs.YtfakjedolecdcaaGreatDoor
open Go.RowKit Go.Extern.Stop Go.Stop Go.Extern

def tapeL (m : Nat) (f : Nat → Int) : List Int := (List.range m).map f
theorem tapeL_get {m : Nat} {f : Nat → Int} {j : Nat} (h : j < m) : (tapeL m f)[j]? = some (f j) := by
  unfold tapeL
  rw [List.getElem?_map, List.getElem?_range h]
  rfl
theorem tapeL_len (m : Nat) (f : Nat → Int) : (tapeL m f).length = m := by simp [tapeL]
theorem nilSomeI (a : Addr) (n c : Nat) (w : World) : (binOp .eql 22 (.slice (some a) n c) (.slice none 0 0)).run Tryz.prog w = .ok (.bool false) w := by kernel_rfl
theorem nilNoneI (w : World) : (binOp .eql 22 (.slice none 0 0) (.slice none 0 0)).run Tryz.prog w = .ok (.bool true) w := by kernel_rfl
theorem seg_emptyI {w : World} {b : Nat} (h : w.heap[b]? = some (.cells #[] 3 (0, 0))) : Seg w 3 1 (.slice (some ⟨b, 0, none⟩) 0 0) 0 [] := ⟨rfl, Or.inr ⟨b, 0, 0, #[], rfl, h, Nat.le_refl _, Nat.zero_le _, by simp, fun j u hj => by simp at hj⟩⟩
set_option maxHeartbeats 1000000 in
theorem cloneI {px : Option Addr} {m pcap : Nat} {f : Nat → Int} (w : World) (h : IRow w px m f) (hn : px = none → m = 0 ∧ pcap = 0) (hm : m ≤ 1000000) :
    Calls Tryz.prog 65 #[.slice px m pcap] w fun e w' => ∃ tv, e = .returned tv ∧ Ins w' tv (tapeL m f) ∧ (∀ k, tv.ownBlock = some k → w.heap.size ≤ k) ∧ Below w.heap.size w w' := by
  have hnS := nilSomeI
  have hnN := nilNoneI
  obtain ⟨i0, hi, hz0, hz1, hz2⟩ := info_parts infoInt1
  cases px with
  | none =>
    obtain ⟨rfl, rfl⟩ := hn rfl
    clear h hn
    go_enter Tryz.func65, Tryz.ntmps65
    go_wp2
    go_ret
    exact ⟨_, rfl, Ins.nil _, fun k hk => by simp [Value.ownBlock] at hk, Below.refl _ _⟩
  | some a =>
    by_cases hm0 : m = 0
    · subst hm0
      clear h hn
      go_enter Tryz.func65, Tryz.ntmps65
      go_wp2
      go_ret
      exact ⟨.slice (some ⟨w.heap.size, 0, none⟩) 0 0, rfl, seg_emptyI (new_block_ rfl), fun k hk => by simp [Value.ownBlock] at hk; omega, below_alloc_ (Below.refl _ _) _⟩
    · obtain ⟨pb, poff, hpa, hpb, hpc⟩ : ∃ b off, some a = some ⟨b, off, none⟩ ∧ b < w.heap.size ∧ ∀ i, i < m → w.cell? ⟨b, off + i, none⟩ = some (.int .i64 (f i)) := by
        rcases h with h | h
        · omega
        · exact h
      obtain rfl := Option.some.inj hpa
      have HC : Hid (∀ i, i < m → w.cell? ⟨pb, poff + i, none⟩ = some (.int .i64 (f i))) := hpc
      clear h hn hpc hpa
      go_enter Tryz.func65, Tryz.ntmps65
      go_wp2_with (at_builtin; refine wpList_append_seg _ rfl (.tmp 5) (.tmp 6) 22 rfl 3 i0 _ 1 8 Tryz.underlying22 hi hz0 hz1 hz2 rfl (by decide) (.slice (some ⟨w.heap.size, 0, none⟩) 0 0) 0 [] rfl (seg_emptyI (new_block_ rfl)) ⟨pb, poff, none⟩ m pcap ((tapeL m f).map (Value.int .i64)) rfl (by simp [tapeL]) (fun j u hj => by { rw [Addr.add_lit, World.cell?_alloc_lt _ _ _ (by exact hpb)]; rw [List.getElem?_map] at hj; obtain ⟨z, hz, rfl⟩ := Option.map_eq_some_iff.1 hj; have hjm : j < m := (by have := (List.getElem?_eq_some_iff.1 hz).1; rw [tapeL_len] at this; exact this); rw [tapeL_get hjm] at hz; rw [HC.out j hjm]; exact congrArg _ (congrArg _ (Option.some.inj hz)) }) (by simp [Value.oneCell']) (by omega) (by unfold maxLen; omega) (by omega) _ rfl ?_; intro g goff gcap w1 hs1 hg1 ha1 hl1)
      go_ret
      refine ⟨.slice (some ⟨g, goff, none⟩) m gcap, by simp, ?_, fun k hk => ?_, below_grown_ (below_alloc_ (Below.refl _ _) _) hg1 (fun k hk => by simp [Value.ownBlock] at hk; omega)⟩
      · unfold Ins
        rw [tapeL_len]
        simpa using hs1
      · simp only [Value.ownBlock, Option.some.injEq] at hk
        subst hk
        rcases ha1 with h | h
        · simp [Value.ownBlock] at h; omega
        · simp at h; omega
end Go.Proofs.YtfakjedolecdcaaGreatDoor
namespace Go.Proofs.YtfakjedolecdcaaGreatDoor
open Go.RowKit Go.Extern.Stop Go.Stop Go.Extern

def RSet.val (q : RSet) : Value := .agg #[.int .i64 q.lo, .int .i64 q.hi, .int .i64 q.often, .int .i64 q.sl, .bool q.mrk]
theorem RSet.val_eq (q : RSet) : q.val = .agg #[.int .i64 q.lo, .int .i64 q.hi, .int .i64 q.often, .int .i64 q.sl, .bool q.mrk] := rfl
set_option maxHeartbeats 1000000 in
theorem right_yes (q : RSet) (w : World) (h : q.Ok) : Calls Tryz.prog 64 #[q.val] w fun e w' => e = .returned (.bool true) ∧ Below w.heap.size w w' := by
  obtain ⟨h1, h2, h3, h4, h5, h6, h7⟩ := h
  rw [RSet.val_eq]
  go_enter Tryz.func64, Tryz.ntmps64
  go_wp2
  go_ret
  exact ⟨rfl, below_alloc_ (Below.refl _ _) _⟩
set_option maxHeartbeats 4000000 in
theorem right_no (q : RSet) (w : World) (h : ¬ q.Ok) : Calls Tryz.prog 64 #[q.val] w fun e w' => e = .returned (.bool false) ∧ Below w.heap.size w w' := by
  rw [RSet.val_eq]
  by_cases a1 : 0 ≤ q.lo ∧ q.lo < q.hi ∧ q.hi ≤ 1000000
  · obtain ⟨h1, h2, h3⟩ := a1
    by_cases a2 : 1 ≤ q.often ∧ q.often ≤ 1000
    · obtain ⟨h4, h5⟩ := a2
      have h67 : q.sl < 0 ∨ 10 < q.sl := by
        by_cases h6 : 0 ≤ q.sl
        · by_cases h7 : q.sl ≤ 10
          · exact absurd ⟨h1, h2, h3, h4, h5, h6, h7⟩ h
          · omega
        · omega
      clear h
      rcases h67 with h6 | h6
      · go_enter Tryz.func64, Tryz.ntmps64
        go_wp2
        all_goals
          go_ret
          exact ⟨rfl, below_alloc_ (Below.refl _ _) _⟩
      · have h6d : decide (q.sl ≤ 10) = false := by simp; omega
        go_enter Tryz.func64, Tryz.ntmps64
        go_wp2
        all_goals
          go_ret
          exact ⟨rfl, below_alloc_ (Below.refl _ _) _⟩
    · have h45 : q.often < 1 ∨ 1000 < q.often := by omega
      clear h a2
      rcases h45 with h6 | h6
      all_goals
        by_cases h7 : 0 ≤ q.sl
        all_goals
          go_enter Tryz.func64, Tryz.ntmps64
          go_wp2
          all_goals
            go_ret
            exact ⟨rfl, below_alloc_ (Below.refl _ _) _⟩
  · have h123 : q.lo < 0 ∨ (0 ≤ q.lo ∧ q.hi ≤ q.lo) ∨ (0 ≤ q.lo ∧ q.lo < q.hi ∧ 1000000 < q.hi) := by omega
    clear h a1
    by_cases h7 : 0 ≤ q.sl
    all_goals
      by_cases h8 : 1 ≤ q.often
      all_goals
        rcases h123 with h6 | ⟨h6, h9⟩ | ⟨h6, h9, h10⟩
        · go_enter Tryz.func64, Tryz.ntmps64
          go_wp2
          all_goals
            go_ret
            exact ⟨rfl, below_alloc_ (Below.refl _ _) _⟩
        · go_enter Tryz.func64, Tryz.ntmps64
          go_wp2
          all_goals
            go_ret
            exact ⟨rfl, below_alloc_ (Below.refl _ _) _⟩
        · have h6d : decide (q.hi ≤ 1000000) = false := by simp; omega
          go_enter Tryz.func64, Tryz.ntmps64
          go_wp2
          all_goals
            go_ret
            exact ⟨rfl, below_alloc_ (Below.refl _ _) _⟩
end Go.Proofs.YtfakjedolecdcaaGreatDoor
namespace Go.Proofs.YtfakjedolecdcaaGreatDoor
open Go.ChangeShapes Go.WideShapes Go.ChangeAt Go.RowKit

section
variable {H : Type} {enc : TypeId × Value → H} {P : Program} {w : World} {base : Nat} {spare : Nat → Bool} {held : Bool}
theorem trodAll_five {a b c e g : TypeId} {args : Array Value} {ds : List (DataW H)} {ps : List MemPlace} (h : DataW.TrodAll enc P w base spare held [a, b, c, e, g] args.toList ds ps) :
    ∃ u0 u1 u2 u3 u4 d0 d1 d2 d3 d4 p0 p1 p2 p3 p4, args = #[u0, u1, u2, u3, u4] ∧ ds = [d0, d1, d2, d3, d4] ∧ ps = p0 ++ p1 ++ p2 ++ p3 ++ p4 ∧ DataW.Trod enc P w base spare held a u0 d0 p0 ∧ DataW.Trod enc P w base spare held b u1 d1 p1 ∧ DataW.Trod enc P w base spare held c u2 d2 p2 ∧ DataW.Trod enc P w base spare held e u3 d3 p3 ∧ DataW.Trod enc P w base spare held g u4 d4 p4 := by
  obtain ⟨u0, us, d0, dt, p0, q, hargs, rfl, rfl, k0, hrest⟩ := trodAll_cons h
  obtain ⟨u1, u2, u3, u4, d1, d2, d3, d4, p1, p2, p3, p4, e1, rfl, rfl, k1, k2, k3, k4⟩ := trodAll_four (args := us.toArray) (by simpa using hrest)
  have e2 : us = [u1, u2, u3, u4] := by simpa using congrArg Array.toList e1
  subst e2
  exact ⟨u0, u1, u2, u3, u4, d0, d1, d2, d3, d4, p0, p1, p2, p3, p4, by cases args; simp_all, rfl, by simp, k0, k1, k2, k3, k4⟩
theorem trodAll_mk5 {a b c e g : TypeId} {u0 u1 u2 u3 u4 : Value} {d0 d1 d2 d3 d4 : DataW H} {p0 p1 p2 p3 p4 : List MemPlace} (k0 : DataW.Trod enc P w base spare held a u0 d0 p0) (k1 : DataW.Trod enc P w base spare held b u1 d1 p1) (k2 : DataW.Trod enc P w base spare held c u2 d2 p2) (k3 : DataW.Trod enc P w base spare held e u3 d3 p3) (k4 : DataW.Trod enc P w base spare held g u4 d4 p4) :
    DataW.TrodAll enc P w base spare held [a, b, c, e, g] [u0, u1, u2, u3, u4] [d0, d1, d2, d3, d4] (p0 ++ (p1 ++ (p2 ++ (p3 ++ p4)))) := ⟨p0, p1 ++ (p2 ++ (p3 ++ p4)), k0, trodAll_mk4 k1 k2 k3 k4, rfl⟩
end
set_option maxRecDepth 100000 in
theorem open_tape {H : Type} {enc : TypeId × Value → H} {W : World} {b0 base : Nat} {spare : Nat → Bool} {held : Bool} {v : Value} {d : DataW H} {p : List MemPlace} {r : Reach}
    (hv : Value.okWide Tryz.prog W r b0 22 v) (h : DataW.Trod enc Tryz.prog W base spare held 22 v d p) :
    ∃ (x : Option Addr) (n cap : Nat) (f : Nat → Int), v = .slice x n cap ∧ IRow W x n f ∧ n ≤ cap ∧ cap ≤ maxLen ∧ (x = none → n = 0 ∧ cap = 0) := by
  obtain ⟨a0, len, cap, rfl⟩ := okWide_slice Tryz.underlying22 hv
  obtain ⟨fuel, hf⟩ := h
  rcases Go.Deep.open_slice1 Tryz.underlying22 cellsInt hf with ⟨hcs, _⟩ | ⟨a, len', cap', m, n, V, D, Pl, hcs, _, hl, hm, hmm, _, hel⟩
  · simp [Value.cells] at hcs
    obtain ⟨rfl, rfl, rfl⟩ := hcs
    exact ⟨none, 0, 0, fun _ => 0, rfl, Or.inl rfl, Nat.le_refl _, Nat.zero_le _, fun _ => ⟨rfl, rfl⟩⟩
  · simp [Value.cells] at hcs
    obtain ⟨rfl, rfl, rfl⟩ := hcs
    by_cases h0 : len = 0
    · subst h0; exact ⟨_, 0, cap, fun _ => 0, rfl, Or.inl rfl, hl, hm, fun h => by cases h⟩
    have hlm : len ≤ m := by rw [hmm]; split <;> omega
    obtain ⟨b, off, spot⟩ := a
    have hspot : spot = none := by
      have hc := (hel 0 (by omega)).1
      simpa [Addr.add] using World.cell?_spot hc
    subst hspot
    have hi : ∀ i, ∃ u : Int, i < len → W.cell? ⟨b, off + i, none⟩ = some (.int .i64 u) := by
      intro i
      by_cases hi : i < len
      · obtain ⟨hc, ht⟩ := hel i (by omega)
        obtain ⟨u, e0, _, _⟩ := DataW.trod_int Tryz.underlying3 ht
        simp only [List.cons.injEq, and_true] at e0
        refine ⟨u, fun _ => ?_⟩
        rw [← e0, ← hc]
        by_cases hz : i = 0
        · subst hz; simp [Addr.add]
        · simp [Addr.add, hz]
      · exact ⟨0, fun h => absurd h hi⟩
    exact ⟨_, len, cap, fun i => Classical.choose (hi i), rfl, Or.inr ⟨b, off, rfl, World.block_lt_of_cell? _ _ (Classical.choose_spec (hi 0) (by omega)), fun i h => Classical.choose_spec (hi i) h⟩, hl, hm, fun h => by cases h⟩
theorem cellsSetup : Tryz.prog.cellsOf 115 = 5 := by kernel_rfl
theorem cellsBool : Tryz.prog.cellsOf 4 = 1 := by kernel_rfl
set_option maxRecDepth 100000 in
/-- A setup, read off an argument. -/
theorem open_setup {H : Type} {enc : TypeId × Value → H} {W : World} {b0 base : Nat} {spare : Nat → Bool} {held : Bool} {v : Value} {d : DataW H} {p : List MemPlace} {r : Reach}
    (hv : Value.okWide Tryz.prog W r b0 115 v) (h : DataW.Trod enc Tryz.prog W base spare held 115 v d p) : ∃ q : RSet, v = q.val := by
  obtain ⟨cs, rfl, hsz⟩ := okWide_struct Tryz.underlying115 hv
  rw [cellsSetup] at hsz
  obtain ⟨l⟩ := cs
  match l, hsz with
  | [c0, c1, c2, c3, c4], _ =>
    obtain ⟨fuel, hf⟩ := h
    obtain ⟨y0, y1, y2, y3, y4, n, _, h0, h1, h2, h3, h4⟩ := trod5 Tryz.underlying115 hf
    simp only [Value.cells, cellsInt, cellsBool, List.drop_zero, List.drop_succ_cons, List.take_succ_cons, List.take_zero] at h0 h1 h2 h3 h4
    obtain ⟨a0, e0, _, _⟩ := DataW.trod_int Tryz.underlying3 h0
    obtain ⟨a1, e1, _, _⟩ := DataW.trod_int Tryz.underlying3 h1
    obtain ⟨a2, e2, _, _⟩ := DataW.trod_int Tryz.underlying3 h2
    obtain ⟨a3, e3, _, _⟩ := DataW.trod_int Tryz.underlying3 h3
    obtain ⟨a4, e4, _⟩ := DataW.trod_bool Tryz.underlying4 h4
    simp only [List.cons.injEq, and_true] at e0 e1 e2 e3 e4
    exact ⟨⟨a0, a1, a2, a3, a4⟩, by rw [e0, e1, e2, e3, e4]; rfl⟩
end Go.Proofs.YtfakjedolecdcaaGreatDoor
