/-
  millracelaw.seen with whatever queue: what one step tells. Conditions: the queue's methods do what a model of it tells (a premise).
-/
import Derived.Test.YtefflbibacmboaaDoorRi
namespace Go.Proofs.YtefflbibacmboaaDoor
open Go.RowKit Go.Extern.Stop Go.Stop Go.Extern

theorem sizeSeen : (Tryd.prog.info? 105).map (·.size) = some 6 := by kernel_rfl
theorem load_seen {w : World} {b : Nat} {t : TypeId} {fr : Nat × Nat} {c0 c1 c2 c3 c4 c5 : Value} (h : w.heap[b]? = some (.cells #[c0, c1, c2, c3, c4, c5] t fr)) : (loadVar 105 ⟨b, 0, none⟩).run Tryd.prog w = .ok (.agg #[c0, c1, c2, c3, c4, c5]) w :=
  run_loadVar_row w b t 105 _ fr _ h Tryd.underlying105 rfl sizeSeen
def Stp.val (s : Stp) : Value := .agg #[.int .i64 s.what, .int .i64 s.lt, .int .i64 s.a, .int .i64 s.l, .int .i64 s.f, .int .i64 s.b, .int .i64 s.m]
def Stp.blk (s : Stp) : Obj := .cells #[.int .i64 s.what, .int .i64 s.lt, .int .i64 s.a, .int .i64 s.l, .int .i64 s.f, .int .i64 s.b, .int .i64 s.m] 96 (0, 0)
theorem Bx.two {w : World} {b : Nat} {c0 c1 c2 c3 c4 lv : Value} (h : Bx w b c0 c1 c2 c3 c4 lv) (a c : Value) : Bx ((w.setCell ⟨b, 0, none⟩ a).setCell ⟨b, 1, none⟩ c) b a c c2 c3 c4 lv := by
  unfold Bx
  rw [heap_setCell_here (heap_setCell_here h a) c]
  simp
theorem Bx.third {w : World} {b : Nat} {c0 c1 c2 c3 c4 lv : Value} (h : Bx w b c0 c1 c2 c3 c4 lv) (a : Value) : Bx (w.setCell ⟨b, 2, none⟩ a) b c0 c1 a c3 c4 lv := by
  unfold Bx
  rw [heap_setCell_here h a]
  simp
theorem Bx.sizes {w : World} {b : Nat} {c0 c1 c2 c3 c4 lv : Value} (h : Bx w b c0 c1 c2 c3 c4 lv) (a c : Value) : Bx ((w.setCell ⟨b, 3, none⟩ a).setCell ⟨b, 4, none⟩ c) b c0 c1 c2 a c lv := by
  unfold Bx
  rw [heap_setCell_here (heap_setCell_here h a) c]
  simp
theorem stepQ_inv {M : QM} (hM : M.Fine) {s : M.σ} {n : Nat} {st : Stp} {t0 : Int} (hI : M.inv t0 n s) (h0 : 0 ≤ t0) (h1 : t0 ≤ st.lt) (h2 : st.lt ≤ 1000000) (hok : st.what = 0 → It.ok ⟨st.a, st.l, st.f, st.b, st.m⟩ = true) (ha : st.a = st.lt) (hn : n ≤ 1000) : M.inv st.lt (stepQ M s n st).1.2 (stepQ M s n st).1.1 ∧ (stepQ M s n st).1.2 ≤ n + 1 := by
  unfold stepQ
  split
  · rename_i hw
    exact ⟨(hM.iP st.lt (hdOf st n) hI h0 h1 h2 (hok hw) ha rfl hn).1, Nat.le_refl _⟩
  · split
    · exact ⟨(hM.iT st.lt hI h0 h1 h2 hn).1, Nat.le_succ _⟩
    · exact ⟨hM.iW st.lt hI h0 h1 h2 hn, Nat.le_succ _⟩
theorem stepQ_len (M : QM) (s : M.σ) (n : Nat) (st : Stp) : (stepQ M s n st).2.len = M.len (stepQ M s n st).1.1 ∧ (stepQ M s n st).2.bytes = M.bytes (stepQ M s n st).1.1 := by
  unfold stepQ
  split
  · exact ⟨rfl, rfl⟩
  · split <;> exact ⟨rfl, rfl⟩
/-- Behind the switch: what was seen so far lies in block b. -/
structure SwQ (M : QM) (w : World) (F : Nat → Prop) (b : Nat) (s' : M.σ) (c0 c1 c2 : Int) (lost : List Int) (wx : World) (F' : Nat → Prop) (lv : Value) : Prop where
  box : Bx wx b (.int .i64 c0) (.int .i64 c1) (.int .i64 c2) (.int .i64 0) (.int .i64 0) lv
  ints : Ins wx lv lost
  inew : ∀ k, lv.ownBlock = some k → w.heap.size + 3 ≤ k ∧ ¬ F' k
  pos : M.At wx F' s'
  fnew : ∀ k, F' k → F k ∨ w.heap.size + 3 ≤ k
  res : wx.heap[w.heap.size + 1]? = some (.cells #[.int .i64 0, .int .i64 0, .int .i64 0, .int .i64 0, .int .i64 0, .slice none 0 0] 105 (0, 0))
  ot : Ot F w wx
theorem three_after {w w2 : World} {F : Nat → Prop} {o1 o2 o3 : Obj} (hF : ∀ k, F k → k < w.heap.size) (ho : Ot F (((w.alloc o1).alloc o2).alloc o3) w2) : w2.heap[w.heap.size]? = some o1 ∧ w2.heap[w.heap.size + 1]? = some o2 ∧ w2.heap[w.heap.size + 1 + 1]? = some o3 ∧ w.heap.size + 3 ≤ w2.heap.size := by
  have hs := ho.size
  simp at hs
  refine ⟨?_, ?_, ?_, by omega⟩
  · rw [ho.block _ (by simp; omega) (fun h => by have := hF _ h; omega), Below.heap_alloc _ _ _ (by simp; omega), Below.heap_alloc _ _ _ (by simp)]
    exact new_block_ rfl
  · rw [ho.block _ (by simp) (fun h => by have := hF _ h; omega), Below.heap_alloc _ _ _ (by simp)]
    exact new_block_ (by simp)
  · rw [ho.block _ (by simp) (fun h => by have := hF _ h; omega)]
    exact new_block_ (by simp)
set_option maxRecDepth 20000 in
set_option maxHeartbeats 4000000 in
theorem seen_any (M : QM) (hM : M.Fine) {F : Nat → Prop} {s : M.σ} {t : Int} {n : Nat} {st : Stp} (w : World) (hA : M.At w F s) (hI : M.inv t n s) (ht0 : 0 ≤ t) (ht1 : t ≤ st.lt) (ht2 : st.lt ≤ 1000000) (hok : st.what = 0 → It.ok ⟨st.a, st.l, st.f, st.b, st.m⟩ = true) (hsa : st.a = st.lt) (hn : n ≤ 1000) :
    Calls Tryd.prog 32 #[.iface M.ty M.rv, st.val, .int .i64 n] w fun e w' => ∃ lv F', e = .returned (.agg #[.int .i64 (stepQ M s n st).2.taken, .int .i64 (stepQ M s n st).2.mark, .int .i64 (stepQ M s n st).2.when, .int .i64 (stepQ M s n st).2.len, .int .i64 (stepQ M s n st).2.bytes, lv]) ∧ Ins w' lv (stepQ M s n st).2.lost ∧ (∀ k, lv.ownBlock = some k → w.heap.size ≤ k ∧ ¬ F' k) ∧ M.At w' F' (stepQ M s n st).1.1 ∧ (∀ k, F' k → F k ∨ w.heap.size ≤ k) ∧ Ot F w w' := by
  have HM : Hid M.Fine := hM
  have HI : Hid (M.inv t n s) := hI
  have HLOW : Hid (∀ k, F k → k < w.heap.size) := hM.low hA
  have HA3 : Hid (∀ (o1 o2 o3 : Obj), M.At (((w.alloc o1).alloc o2).alloc o3) F s) := fun o1 o2 o3 => hM.kept hA (fun k hk => by have := hM.low hA k hk; rw [Below.heap_alloc _ _ _ (by simp; omega), Below.heap_alloc _ _ _ (by simp; omega), Below.heap_alloc _ _ _ this])
  have HOK : Hid (st.what = 0 → It.ok ⟨st.a, st.l, st.f, st.b, st.m⟩ = true) := hok
  have hmP := hM.mP
  have hmT := hM.mT
  have hmW := hM.mW
  have hmL := hM.mL
  have hmB := hM.mB
  have heP := hM.eP
  have heT := hM.eT
  have heW := hM.eW
  have heL := hM.eL
  have heB := hM.eB
  have HSA : Hid (st.a = st.lt) := hsa
  obtain ⟨r, hr⟩ : ∃ r, stepQ M s n st = r := ⟨_, rfl⟩
  have HSQ : Hid (stepQ M s n st = r) := hr
  obtain ⟨hI2, hn2⟩ := stepQ_inv hM hI (st := st) ht0 ht1 ht2 hok hsa hn
  obtain ⟨hL2, hB2⟩ := stepQ_len M s n st
  rw [hr] at hI2 hn2 hL2 hB2 ⊢
  have HI2 : Hid (M.inv st.lt r.1.2 r.1.1) := hI2
  have HL2 : Hid (r.2.len = M.len r.1.1) := hL2
  have HB2 : Hid (r.2.bytes = M.bytes r.1.1) := hB2
  clear hA hI hM hok hsa hr hI2 hL2 hB2
  obtain ⟨i0, hi, hz0, hz1, hz2⟩ := info_parts infoInt1
  unfold Stp.val
  go_enter Tryd.func32, Tryd.ntmps32
  go_upto_block 0 with (fail)
  go_cut [] (fun wx => ∃ F' lv, SwQ M w F (w.heap.size + 1 + 1) r.1.1 r.2.taken r.2.mark r.2.when r.2.lost wx F' lv)
  case first =>
    have hV := Hd.val_eq
    by_cases hw0 : st.what = 0
    · have HW : Hid (st.what = 0) := hw0
      have hw2 : (st.what == 0) = true := by simpa using hw0
      clear hw0
      go_wp2_with fail
      refine (HM.out.cP (t := t) (n := n) st.lt (hdOf st n) (HA3.out _ _ _) HI.out ht0 ht1 ht2 (HOK.out HW.out) HSA.out rfl hn).mono ?_
      rintro e w2 ⟨u, F2, rfl, hu2, ha2, hf2, hn2', ho2⟩
      obtain ⟨x1, x2, x3, x4⟩ := three_after HLOW.out ho2
      have hiP := HM.out.iP (n := n) (t := t) st.lt (hdOf st n) HI.out ht0 ht1 ht2 (HOK.out HW.out) HSA.out rfl hn
      have HRR0 : Hid (r = (((M.put s st.lt (hdOf st n)).1, n + 1), ⟨-1, 0, -1, M.len (M.put s st.lt (hdOf st n)).1, M.bytes (M.put s st.lt (hdOf st n)).1, (M.put s st.lt (hdOf st n)).2.map Hd.n⟩)) := by show r = _; rw [← HSQ.out]; simp only [stepQ, if_pos HW.out]
      generalize M.put s st.lt (hdOf st n) = Tk at *
      obtain ⟨s2, l2⟩ := Tk
      have HFEW : Hid (l2.length ≤ 1000000) := hiP.2
      have HX3 : Hid (Bx w2 (w.heap.size + 1 + 1) (.int .i64 (-1)) (.int .i64 0) (.int .i64 (-1)) (.int .i64 0) (.int .i64 0) (.slice none 0 0)) := x3
      have HX2 : Hid (w2.heap[w.heap.size + 1]? = some (.cells #[.int .i64 0, .int .i64 0, .int .i64 0, .int .i64 0, .int .i64 0, .slice none 0 0] 105 (0, 0))) := x2
      have HP2 : Hid (M.At w2 F2 s2) := ha2
      have HF2 : Hid (∀ k, F2 k → F k ∨ w.heap.size + 3 ≤ k) := fun j hj => by have := hf2 j hj; simpa using this
      have HO2 : Hid (Ot F w w2) := (Ot.alloc (Ot.alloc (Ot.alloc (Ot.refl _ w) _) _) _).trans ho2
      have hx4 : w.heap.size + 3 ≤ w2.heap.size := x4
      obtain ⟨vx, vcap, huv, hvl⟩ := hu2.lies
      have HNE : Hid (∀ a, vx = some a → a.block ≠ w.heap.size + 1 + 1) := by
        rintro a rfl e
        rcases hn2' a.block (by rw [huv]; rfl) with h | h
        · have := HLOW.out _ h; omega
        · simp at h; omega
      subst huv
      have HVL : Hid (Lies w2 vx (flt Hd.cs l2)) := hvl
      have HREL : Hid (∀ {lv : Value} {w3 w4 : World} {c0 c1 : Int} {nn : Nat}, r = ((s2, nn), ⟨c0, c1, -1, M.len s2, M.bytes s2, l2.map Hd.n⟩) → Bx w4 (w.heap.size + 1 + 1) (.int .i64 c0) (.int .i64 c1) (.int .i64 (-1)) (.int .i64 0) (.int .i64 0) lv → Ins w3 lv (l2.map Hd.n) → (∀ k, lv.ownBlock = some k → w2.heap.size ≤ k) → Ot (· = w.heap.size + 1 + 1) w2 w3 → Ot (· = w.heap.size + 1 + 1) w3 w4 → SwQ M w F (w.heap.size + 1 + 1) r.1.1 r.2.taken r.2.mark r.2.when r.2.lost w4 F2 lv) := by
        intro lv w3 w4 c0 c1 nn hr hbx hin hnw hot hot2
        rw [hr]
        have hO := hot.trans hot2
        refine ⟨hbx, Seg.oth hin hot2 (fun k hk e => by have := hnw k hk; omega), fun k hk => ⟨by have := hnw k hk; omega, fun h => by have h1 := hnw k hk; have h2 := HM.out.low HP2.out k h; omega⟩, ?_, HF2.out, (hO.block _ (by omega) (by omega)).trans HX2.out, HO2.out.trans' hO (fun j e hj => by omega)⟩
        refine HM.out.kept HP2.out (fun j hj => hO.block j (HM.out.low HP2.out j hj) (fun e => ?_))
        rcases HF2.out j hj with h | h
        · have := HLOW.out j h; omega
        · omega
      clear hu2 ha2 hf2 ho2 hn2' x1 x2 x3 x4 hiP hvl
      obtain ⟨nl, hnl⟩ : ∃ nl, (l2 : List Hd).length = nl := ⟨_, rfl⟩
      have HNL : Hid ((l2 : List Hd).length = nl) := hnl
      have hnl1 : nl ≤ 1000000 := by rw [← hnl]; exact HFEW.out
      rw [hnl]
      clear hnl
      go_wp2_with fail
      go_loopw [9] (fun i wr => ∃ (k : Nat) (lv : Value), k ≤ nl ∧ i = .int .i64 k ∧ Bx wr (w.heap.size + 1 + 1) (.int .i64 (-1)) (.int .i64 0) (.int .i64 (-1)) (.int .i64 0) (.int .i64 0) lv ∧ Ins wr lv (nums l2 k) ∧ (∀ k, lv.ownBlock = some k → w2.heap.size ≤ k) ∧ Ot (· = w.heap.size + 1 + 1) w2 wr) (fun i _ => nl - (intOf i).toNat)
      case atStart => exact ⟨0, _, Nat.zero_le _, rfl, HX3.out, Ins.nil _, fun k hk => by simp [Value.ownBlock] at hk, Ot.refl _ _⟩
      case round =>
        obtain ⟨k, lv, hk, rfl, hbx, hin, hnw, hot⟩ := hrel
        have HBX : Hid (Bx wr (w.heap.size + 1 + 1) (.int .i64 (-1)) (.int .i64 0) (.int .i64 (-1)) (.int .i64 0) (.int .i64 0) lv) := hbx
        have HIN : Hid (Ins wr lv (nums l2 k)) := hin
        have HNW : Hid (∀ k, lv.ownBlock = some k → w2.heap.size ≤ k) := hnw
        have HOT : Hid (Ot (· = w.heap.size + 1 + 1) w2 wr) := hot
        have hws := hot.size
        (try simp only [World.size_alloc] at hws)
        have hxl := lt_of_block hbx
        clear hin hnw
        by_cases hlt : k < nl
        · obtain ⟨s1, hs1⟩ : ∃ s1, (l2 : List Hd)[k]? = some s1 := ⟨_, List.getElem?_eq_getElem (by have := HNL.out; omega)⟩
          have HS1 : Hid ((l2 : List Hd)[k]? = some s1) := hs1
          obtain ⟨bb, off, rfl, hbb, k0, k1, k2, k3, k4, k5⟩ := (HVL.out.ot hot (fun a e h => HNE.out a e h)).held hs1
          clear hs1
          obtain ⟨⟨_, _, _, _, _, z5⟩, _, _, _, _, _, y5⟩ := six hbx
          have HI' : Hid (Seg wr 3 1 lv k ((nums l2 k).map (Value.int .i64))) := by have := HIN.out; unfold Ins at this; rw [nums_length (by have := HNL.out; omega)] at this; exact this
          clear hbx hot
          go_wp2_with fail
          go_region_law (refine step_append_seg _ (by rfl) (.tmp 46) (.tmp 52) 24 (by rfl) 3 i0 _ 1 8 Tryd.underlying24 hi hz0 hz1 hz2 rfl (by decide) _ _ _ (by rfl) (HI'.out.below (by repeat' (first | with_reducible exact Below.refl _ _ | with_reducible refine Below.drew ?_ | with_reducible refine below_alloc_ ?_ _))) ⟨wr.heap.size, 0, none⟩ 1 1 [.int .i64 s1.n] (by rfl) rfl (news_of (new_block_ (by simp))) (by simp [Value.oneCell']) (by decide) (by unfold maxLen; omega) (by omega) _ rfl ?_; intro g goff gcap w3 hs3 hg3 ha3 hl3; have hm3 := HBX.out.mid (by repeat' (first | with_reducible exact Below.refl _ _ | with_reducible refine Below.drew ?_ | with_reducible refine below_alloc_ ?_ _)) hg3 (fun e => by have := HNW.out _ e; omega); obtain ⟨⟨_, _, _, _, _, t5⟩, _, _, _, _, _, e5⟩ := six hm3; have hx3 := lt_of_block hm3)
          all_goals
            have hgb : w2.heap.size ≤ g := by
              rcases ha3 with h | h
              · exact HNW.out _ h
              · simp at h; omega
            go_wp2
            go_roundw
            case rel =>
              refine ⟨k + 1, _, by omega, by go_num, hm3.lost _, ?_, fun j hj => by simp only [Value.ownBlock, Option.some.injEq] at hj; omega, ?_⟩
              · unfold Ins
                rw [nums_succ HS1.out, List.length_append, nums_length (by have := HNL.out; omega), List.map_append]
                exact hs3.setCell (p := ⟨w.heap.size + 1 + 1, 5, none⟩) (by simp [Value.ownBlock]; omega) _
              · refine Ot.setCell (S := (· = w.heap.size + 1 + 1)) (p := ⟨w.heap.size + 1 + 1, 5, none⟩) ?_ (Or.inl rfl) _
                refine Ot.grown (row := lv.ownBlock) ?_ hg3 (fun j e => Or.inr (by have := HNW.out j e; first | omega | (simp; omega)))
                repeat' (first | with_reducible exact HOT.out | with_reducible refine Ot.drew ?_ | with_reducible refine Ot.alloc ?_ _)
            case measure => simp [intOf]; omega
        · obtain rfl : k = nl := by omega
          have HIN2 : Hid (Ins wr lv ((l2 : List Hd).map Hd.n)) := by have := HIN.out; rw [← HNL.out, nums_all] at this; exact this
          go_wp2
          go_meet
          case rel => exact ⟨F2, lv, HREL.out HRR0.out HBX.out HIN2.out HNW.out HOT.out (Ot.refl _ _)⟩
    · have HW : Hid (¬ st.what = 0) := hw0
      have hw2 : (st.what == 0) = false := by simpa using hw0
      clear hw0
      by_cases hw1 : st.what = 1
      · have HW1 : Hid (st.what = 1) := hw1
        have hw3 : (st.what == 1) = true := by simpa using hw1
        clear hw1
        go_wp2_with fail
        refine (HM.out.cT (t := t) (n := n) st.lt (HA3.out _ _ _) HI.out ht0 ht1 ht2 hn).mono ?_
        rintro e w2 ⟨u, F2, rfl, hu2, ha2, hf2, hn2', ho2⟩
        obtain ⟨x1, x2, x3, x4⟩ := three_after HLOW.out ho2
        have hiP := HM.out.iT (n := n) (t := t) st.lt HI.out ht0 ht1 ht2 hn
        have HRR0 : Hid (r = (((M.take s st.lt).1, n), ⟨if (M.take s st.lt).2.2.2 then (M.take s st.lt).2.2.1.n else -1, if (M.take s st.lt).2.2.2 then (M.take s st.lt).2.2.1.m else 0, -1, M.len (M.take s st.lt).1, M.bytes (M.take s st.lt).1, (M.take s st.lt).2.1.map Hd.n⟩)) := by show r = _; rw [← HSQ.out]; simp only [stepQ, if_neg HW.out, if_pos HW1.out]
        generalize M.take s st.lt = Tk at *
        obtain ⟨s2, l2, hx, ok2⟩ := Tk
        have HFEW : Hid (l2.length ≤ 1000000) := hiP.2
        have HX3 : Hid (Bx w2 (w.heap.size + 1 + 1) (.int .i64 (-1)) (.int .i64 0) (.int .i64 (-1)) (.int .i64 0) (.int .i64 0) (.slice none 0 0)) := x3
        have HX2 : Hid (w2.heap[w.heap.size + 1]? = some (.cells #[.int .i64 0, .int .i64 0, .int .i64 0, .int .i64 0, .int .i64 0, .slice none 0 0] 105 (0, 0))) := x2
        have HP2 : Hid (M.At w2 F2 s2) := ha2
        have HF2 : Hid (∀ k, F2 k → F k ∨ w.heap.size + 3 ≤ k) := fun j hj => by have := hf2 j hj; simpa using this
        have HO2 : Hid (Ot F w w2) := (Ot.alloc (Ot.alloc (Ot.alloc (Ot.refl _ w) _) _) _).trans ho2
        have hx4 : w.heap.size + 3 ≤ w2.heap.size := x4
        obtain ⟨vx, vcap, huv, hvl⟩ := hu2.lies
        have HNE : Hid (∀ a, vx = some a → a.block ≠ w.heap.size + 1 + 1) := by
          rintro a rfl e
          rcases hn2' a.block (by rw [huv]; rfl) with h | h
          · have := HLOW.out _ h; omega
          · simp at h; omega
        subst huv
        have HVL : Hid (Lies w2 vx (flt Hd.cs l2)) := hvl
        have HREL : Hid (∀ {lv : Value} {w3 w4 : World} {c0 c1 : Int} {nn : Nat}, r = ((s2, nn), ⟨c0, c1, -1, M.len s2, M.bytes s2, l2.map Hd.n⟩) → Bx w4 (w.heap.size + 1 + 1) (.int .i64 c0) (.int .i64 c1) (.int .i64 (-1)) (.int .i64 0) (.int .i64 0) lv → Ins w3 lv (l2.map Hd.n) → (∀ k, lv.ownBlock = some k → w2.heap.size ≤ k) → Ot (· = w.heap.size + 1 + 1) w2 w3 → Ot (· = w.heap.size + 1 + 1) w3 w4 → SwQ M w F (w.heap.size + 1 + 1) r.1.1 r.2.taken r.2.mark r.2.when r.2.lost w4 F2 lv) := by
          intro lv w3 w4 c0 c1 nn hr hbx hin hnw hot hot2
          rw [hr]
          have hO := hot.trans hot2
          refine ⟨hbx, Seg.oth hin hot2 (fun k hk e => by have := hnw k hk; omega), fun k hk => ⟨by have := hnw k hk; omega, fun h => by have h1 := hnw k hk; have h2 := HM.out.low HP2.out k h; omega⟩, ?_, HF2.out, (hO.block _ (by omega) (by omega)).trans HX2.out, HO2.out.trans' hO (fun j e hj => by omega)⟩
          refine HM.out.kept HP2.out (fun j hj => hO.block j (HM.out.low HP2.out j hj) (fun e => ?_))
          rcases HF2.out j hj with h | h
          · have := HLOW.out j h; omega
          · omega
        clear hu2 ha2 hf2 ho2 hn2' x1 x2 x3 x4 hiP hvl
        have HVL2 : Hid (Lies (w2.alloc (.cells #[.int .i64 hx.a, .int .i64 hx.l, .int .i64 hx.f, .int .i64 hx.b, .int .i64 hx.m, .int .i64 hx.n] 124)) vx (flt Hd.cs l2)) := HVL.out.below (below_alloc_ (Below.refl _ _) _)
        have HX4 : Hid (Bx (w2.alloc (.cells #[.int .i64 hx.a, .int .i64 hx.l, .int .i64 hx.f, .int .i64 hx.b, .int .i64 hx.m, .int .i64 hx.n] 124)) (w.heap.size + 1 + 1) (.int .i64 (-1)) (.int .i64 0) (.int .i64 (-1)) (.int .i64 0) (.int .i64 0) (.slice none 0 0)) := (Below.heap_alloc _ _ _ (lt_of_block HX3.out)).trans HX3.out
        obtain ⟨nl, hnl⟩ : ∃ nl, (l2 : List Hd).length = nl := ⟨_, rfl⟩
        have HNL : Hid ((l2 : List Hd).length = nl) := hnl
        have hnl1 : nl ≤ 1000000 := by rw [← hnl]; exact HFEW.out
        rw [hnl]
        clear hnl
        go_wp2_with fail
        go_loopw [13] (fun i wr => ∃ (k : Nat) (lv : Value), k ≤ nl ∧ i = .int .i64 k ∧ Bx wr (w.heap.size + 1 + 1) (.int .i64 (-1)) (.int .i64 0) (.int .i64 (-1)) (.int .i64 0) (.int .i64 0) lv ∧ Ins wr lv (nums l2 k) ∧ (∀ k, lv.ownBlock = some k → w2.heap.size + 1 ≤ k) ∧ Ot (· = w.heap.size + 1 + 1) (w2.alloc (.cells #[.int .i64 hx.a, .int .i64 hx.l, .int .i64 hx.f, .int .i64 hx.b, .int .i64 hx.m, .int .i64 hx.n] 124)) wr) (fun i _ => nl - (intOf i).toNat)
        case atStart => exact ⟨0, _, Nat.zero_le _, rfl, HX4.out, Ins.nil _, fun k hk => by simp [Value.ownBlock] at hk, Ot.refl _ _⟩
        case round =>
          obtain ⟨k, lv, hk, rfl, hbx, hin, hnw, hot⟩ := hrel
          have HBX : Hid (Bx wr (w.heap.size + 1 + 1) (.int .i64 (-1)) (.int .i64 0) (.int .i64 (-1)) (.int .i64 0) (.int .i64 0) lv) := hbx
          have HIN : Hid (Ins wr lv (nums l2 k)) := hin
          have HNW : Hid (∀ k, lv.ownBlock = some k → w2.heap.size + 1 ≤ k) := hnw
          have HOT : Hid (Ot (· = w.heap.size + 1 + 1) (w2.alloc (.cells #[.int .i64 hx.a, .int .i64 hx.l, .int .i64 hx.f, .int .i64 hx.b, .int .i64 hx.m, .int .i64 hx.n] 124)) wr) := hot
          have hws := hot.size
          (try simp only [World.size_alloc] at hws)
          have hxl := lt_of_block hbx
          clear hin hnw
          by_cases hlt : k < nl
          · obtain ⟨s1, hs1⟩ : ∃ s1, (l2 : List Hd)[k]? = some s1 := ⟨_, List.getElem?_eq_getElem (by have := HNL.out; omega)⟩
            have HS1 : Hid ((l2 : List Hd)[k]? = some s1) := hs1
            obtain ⟨bb, off, rfl, hbb, k0, k1, k2, k3, k4, k5⟩ := (HVL2.out.ot hot (fun a e h => HNE.out a e h)).held hs1
            clear hs1
            obtain ⟨⟨_, _, _, _, _, z5⟩, _, _, _, _, _, y5⟩ := six hbx
            have HI' : Hid (Seg wr 3 1 lv k ((nums l2 k).map (Value.int .i64))) := by have := HIN.out; unfold Ins at this; rw [nums_length (by have := HNL.out; omega)] at this; exact this
            clear hbx hot
            go_wp2_with fail
            go_region_law (refine step_append_seg _ (by rfl) (.tmp 72) (.tmp 78) 24 (by rfl) 3 i0 _ 1 8 Tryd.underlying24 hi hz0 hz1 hz2 rfl (by decide) _ _ _ (by rfl) (HI'.out.below (by repeat' (first | with_reducible exact Below.refl _ _ | with_reducible refine Below.drew ?_ | with_reducible refine below_alloc_ ?_ _))) ⟨wr.heap.size, 0, none⟩ 1 1 [.int .i64 s1.n] (by rfl) rfl (news_of (new_block_ (by simp))) (by simp [Value.oneCell']) (by decide) (by unfold maxLen; omega) (by omega) _ rfl ?_; intro g goff gcap w3 hs3 hg3 ha3 hl3; have hm3 := HBX.out.mid (by repeat' (first | with_reducible exact Below.refl _ _ | with_reducible refine Below.drew ?_ | with_reducible refine below_alloc_ ?_ _)) hg3 (fun e => by have := HNW.out _ e; omega); obtain ⟨⟨_, _, _, _, _, t5⟩, _, _, _, _, _, e5⟩ := six hm3; have hx3 := lt_of_block hm3)
            all_goals
              have hgb : w2.heap.size + 1 ≤ g := by
                rcases ha3 with h | h
                · exact HNW.out _ h
                · simp at h; omega
              go_wp2
              go_roundw
              case rel =>
                refine ⟨k + 1, _, by omega, by go_num, hm3.lost _, ?_, fun j hj => by simp only [Value.ownBlock, Option.some.injEq] at hj; omega, ?_⟩
                · unfold Ins
                  rw [nums_succ HS1.out, List.length_append, nums_length (by have := HNL.out; omega), List.map_append]
                  exact hs3.setCell (p := ⟨w.heap.size + 1 + 1, 5, none⟩) (by simp [Value.ownBlock]; omega) _
                · refine Ot.setCell (S := (· = w.heap.size + 1 + 1)) (p := ⟨w.heap.size + 1 + 1, 5, none⟩) ?_ (Or.inl rfl) _
                  refine Ot.grown (row := lv.ownBlock) ?_ hg3 (fun j e => Or.inr (by have := HNW.out j e; first | omega | (simp; omega)))
                  repeat' (first | with_reducible exact HOT.out | with_reducible refine Ot.drew ?_ | with_reducible refine Ot.alloc ?_ _)
              case measure => simp [intOf]; omega
          · obtain rfl : k = nl := by omega
            have HIN2 : Hid (Ins wr lv ((l2 : List Hd).map Hd.n)) := by have := HIN.out; rw [← HNL.out, nums_all] at this; exact this
            have hHB : wr.heap[w2.heap.size]? = some (.cells #[.int .i64 hx.a, .int .i64 hx.l, .int .i64 hx.f, .int .i64 hx.b, .int .i64 hx.m, .int .i64 hx.n] 124 (0, 0)) := (HOT.out.block _ (by simp) (by omega)).trans (new_block _ _)
            obtain ⟨⟨p0, p1, p2, p3, p4, p5⟩, _, _, _, _, _, _⟩ := six hHB
            obtain ⟨⟨q0, q1, q2, q3, q4, q5⟩, g0, g1, g2, g3, g4, g5⟩ := six HBX.out
            cases ok2 with
            | true =>
              go_wp2
              go_region
              all_goals
                go_wp2
                go_meet
                case rel => exact ⟨F2, lv, HREL.out HRR0.out (HBX.out.two _ _) HIN2.out (fun k hk => by have := HNW.out k hk; omega) ((Ot.alloc (Ot.refl _ _) _).trans HOT.out) (by repeat' (first | with_reducible exact Ot.refl _ _ | with_reducible refine Ot.drew ?_ | with_reducible refine Ot.setCell ?_ (by simp) _))⟩
            | false =>
              go_wp2
              go_meet
              case rel => exact ⟨F2, lv, HREL.out HRR0.out HBX.out HIN2.out (fun k hk => by have := HNW.out k hk; omega) ((Ot.alloc (Ot.refl _ _) _).trans HOT.out) (Ot.refl _ _)⟩
      · have HW1 : Hid (¬ st.what = 1) := hw1
        have hw3 : (st.what == 1) = false := by simpa using hw1
        clear hw1
        go_wp2_with fail
        refine (HM.out.cW (t := t) (n := n) st.lt (HA3.out _ _ _) HI.out ht0 ht1 ht2 hn).mono ?_
        rintro e w2 ⟨F2, rfl, ha2, hf2, ho2⟩
        obtain ⟨x1, x2, x3, x4⟩ := three_after HLOW.out ho2
        have HRR0 : Hid (r = (((M.when s st.lt).1, n), ⟨-1, 0, if (M.when s st.lt).2.2 then (M.when s st.lt).2.1 else -1, M.len (M.when s st.lt).1, M.bytes (M.when s st.lt).1, []⟩)) := by show r = _; rw [← HSQ.out]; simp only [stepQ, if_neg HW.out, if_neg HW1.out]
        generalize M.when s st.lt = Tk at *
        obtain ⟨s2, a2, ok2⟩ := Tk
        have HX3 : Hid (Bx w2 (w.heap.size + 1 + 1) (.int .i64 (-1)) (.int .i64 0) (.int .i64 (-1)) (.int .i64 0) (.int .i64 0) (.slice none 0 0)) := x3
        have HX2 : Hid (w2.heap[w.heap.size + 1]? = some (.cells #[.int .i64 0, .int .i64 0, .int .i64 0, .int .i64 0, .int .i64 0, .slice none 0 0] 105 (0, 0))) := x2
        have HP2 : Hid (M.At w2 F2 s2) := ha2
        have HF2 : Hid (∀ k, F2 k → F k ∨ w.heap.size + 3 ≤ k) := fun j hj => by have := hf2 j hj; simpa using this
        have HO2 : Hid (Ot F w w2) := (Ot.alloc (Ot.alloc (Ot.alloc (Ot.refl _ w) _) _) _).trans ho2
        have hx4 : w.heap.size + 3 ≤ w2.heap.size := x4
        have HREL : Hid (∀ {w4 : World} {c2 : Int}, r = ((s2, n), ⟨-1, 0, c2, M.len s2, M.bytes s2, []⟩) → Bx w4 (w.heap.size + 1 + 1) (.int .i64 (-1)) (.int .i64 0) (.int .i64 c2) (.int .i64 0) (.int .i64 0) (.slice none 0 0) → Ot (· = w.heap.size + 1 + 1) w2 w4 → SwQ M w F (w.heap.size + 1 + 1) r.1.1 r.2.taken r.2.mark r.2.when r.2.lost w4 F2 (.slice none 0 0)) := by
          intro w4 c2 hr hbx hO
          rw [hr]
          refine ⟨hbx, Ins.nil _, fun k hk => by simp [Value.ownBlock] at hk, ?_, HF2.out, (hO.block _ (by omega) (by omega)).trans HX2.out, HO2.out.trans' hO (fun j e hj => by omega)⟩
          refine HM.out.kept HP2.out (fun j hj => hO.block j (HM.out.low HP2.out j hj) (fun e => ?_))
          rcases HF2.out j hj with h | h
          · have := HLOW.out j h; omega
          · omega
        obtain ⟨⟨q0, q1, q2, q3, q4, q5⟩, g0, g1, g2, g3, g4, g5⟩ := six x3
        have hxl := lt_of_block x3
        clear ha2 hf2 ho2 x1 x2 x3 x4
        cases ok2 with
        | true =>
          go_wp2
          go_meet
          case rel => exact ⟨F2, _, HREL.out HRR0.out (HX3.out.third _) (Ot.setCell (S := (· = w.heap.size + 1 + 1)) (p := ⟨w.heap.size + 1 + 1, 2, none⟩) (Ot.refl _ _) (Or.inl rfl) _)⟩
        | false =>
          go_wp2
          go_meet
          case rel => exact ⟨F2, _, HREL.out HRR0.out HX3.out (Ot.refl _ _)⟩
  case rest =>
  obtain ⟨F2, lv, hmid⟩ := hcut
  have HMID : Hid (SwQ M w F (w.heap.size + 1 + 1) r.1.1 r.2.taken r.2.mark r.2.when r.2.lost wc F2 lv) := hmid
  have hxl := lt_of_block hmid.box
  clear hmid
  go_wp2_with fail
  refine (HM.out.cL HMID.out.pos HI2.out (by omega)).mono ?_
  rintro e w3 ⟨rfl, hb3⟩
  rw [← HL2.out]
  go_wp2_with fail
  have hp3 : M.At w3 F2 r.1.1 := HM.out.kept HMID.out.pos (fun j hj => hb3.block j (HM.out.low HMID.out.pos j hj))
  refine (HM.out.cB hp3 HI2.out (by omega)).mono ?_
  rintro e w4 ⟨rfl, hb4⟩
  rw [← HB2.out]
  have hb34 : Below wc.heap.size wc w4 := hb3.trans (hb4.mono hb3.size)
  have hB7 : Bx w4 (w.heap.size + 1 + 1) (.int .i64 r.2.taken) (.int .i64 r.2.mark) (.int .i64 r.2.when) (.int .i64 0) (.int .i64 0) lv := (hb34.block _ hxl).trans HMID.out.box
  have hB6 := (hb34.block _ (lt_of_block HMID.out.res)).trans HMID.out.res
  obtain ⟨⟨z0, z1, z2, z3, z4, z5⟩, y0, y1, y2, y3, y4, y5⟩ := six hB7
  obtain ⟨⟨v0, v1, v2, v3, v4, v5⟩, t0, t1, t2, t3, t4, t5⟩ := six hB6
  have hx4 : w.heap.size + 1 + 1 < w4.heap.size := lt_of_block hB7
  have hx5 : w.heap.size + 1 < w4.heap.size := lt_of_block hB6
  have HB34 : Hid (Below wc.heap.size wc w4) := hb34
  have HB7 : Hid (Bx w4 (w.heap.size + 1 + 1) (.int .i64 r.2.taken) (.int .i64 r.2.mark) (.int .i64 r.2.when) (.int .i64 0) (.int .i64 0) lv) := hB7
  have HB6 : Hid (w4.heap[w.heap.size + 1]? = some (.cells #[.int .i64 0, .int .i64 0, .int .i64 0, .int .i64 0, .int .i64 0, .slice none 0 0] 105 (0, 0))) := hB6
  obtain ⟨lx, lc, hlv⟩ : ∃ lx lc, lv = .slice lx r.2.lost.length lc := by
    rcases HMID.out.ints.form with ⟨h, h0, _⟩ | ⟨_, _, _, h, _⟩
    · exact ⟨none, 0, by rw [h, h0]⟩
    · exact ⟨_, _, h⟩
  clear hb3 hb4 hp3 hb34 hB7 hB6
  subst hlv
  go_wp2
  (try simp only [Exit.inBlock, Exit.then])
  have hO9 : Ot (fun k => k = w.heap.size + 1 ∨ k = w.heap.size + 1 + 1) w4 ((((((((w4.setCell ⟨w.heap.size + 1 + 1, 3, none⟩ (.int .i64 r.2.len)).setCell ⟨w.heap.size + 1 + 1, 4, none⟩ (.int .i64 r.2.bytes)).setCell ⟨w.heap.size + 1, 0, none⟩ (.int .i64 r.2.taken)).setCell ⟨w.heap.size + 1, 1, none⟩ (.int .i64 r.2.mark)).setCell ⟨w.heap.size + 1, 2, none⟩ (.int .i64 r.2.when)).setCell ⟨w.heap.size + 1, 3, none⟩ (.int .i64 r.2.len)).setCell ⟨w.heap.size + 1, 4, none⟩ (.int .i64 r.2.bytes)).setCell ⟨w.heap.size + 1, 5, none⟩ (.slice lx r.2.lost.length lc)) := by
    repeat' (first | with_reducible exact Ot.refl _ _ | with_reducible refine Ot.setCell ?_ (Or.inl (by simp)) _)
  have hOc := (Ot.of_below (S := fun k => k = w.heap.size + 1 ∨ k = w.heap.size + 1 + 1) HB34.out).trans hO9
  refine bodyPost_ret (v := .agg #[.int .i64 r.2.taken, .int .i64 r.2.mark, .int .i64 r.2.when, .int .i64 r.2.len, .int .i64 r.2.bytes, .slice lx r.2.lost.length lc]) ?_ rfl ⟨_, F2, rfl, Seg.oth HMID.out.ints hOc (fun k hk h => ?_), fun k hk => ⟨?_, (HMID.out.inew k hk).2⟩, HM.out.kept HMID.out.pos (fun k hk => hOc.block k (HM.out.low HMID.out.pos k hk) (fun h => ?_)), fun k hk => ?_, HMID.out.ot.trans' hOc (fun k h hk => by omega)⟩
  · have hld := load_seen (six_set (w := (w4.setCell ⟨w.heap.size + 1 + 1, 3, none⟩ (.int .i64 r.2.len)).setCell ⟨w.heap.size + 1 + 1, 4, none⟩ (.int .i64 r.2.bytes)) ((Below.heap_setCell _ _ _ _ (by show w.heap.size + 1 ≠ w.heap.size + 1 + 1; omega)).trans ((Below.heap_setCell _ _ _ _ (by show w.heap.size + 1 ≠ w.heap.size + 1 + 1; omega)).trans HB6.out)) (.int .i64 r.2.taken) (.int .i64 r.2.mark) (.int .i64 r.2.when) (.int .i64 r.2.len) (.int .i64 r.2.bytes) (.slice lx r.2.lost.length lc))
    simp [results, Tryd.results32, asAddr, hld]
  · have := (HMID.out.inew k hk).1
    omega
  · have := (HMID.out.inew k hk).1
    omega
  · rcases HMID.out.fnew k hk with h' | h'
    · have := HLOW.out k h'; omega
    · omega
  · rcases HMID.out.fnew k hk with h' | h'
    · exact Or.inl h'
    · right; omega
end Go.Proofs.YtefflbibacmboaaDoor
