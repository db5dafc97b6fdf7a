/-
  LinkBusy's spans: when the wire is busy; and sameInts of equal rows. Conditions: what was sent lies in memory.
  LinkBusy, where it says nothing: too many packets; a rate or packets that may not be. Conditions: what errors and strconv have laid.
-/
import Derived.Test.YtfakjedolecdcaaGreatDoorGvc
namespace Go.Proofs.YtfakjedolecdcaaGreatDoor
open Go.RowKit Go.Extern.Stop Go.Stop Go.Extern

/-- What stays: all that was there before, and the box. -/
structure KpW (w W : World) (sv lv : Value) (wt ms : Int) : Prop where
  bel : Below w.heap.size w W
  box : W.heap[w.heap.size]? = some (.cells #[sv, lv, .int .i64 wt, .int .i64 ms] 41 (0, 0))
theorem KpW.cell {w W : World} {sv lv : Value} {wt ms : Int} (h : KpW w W sv lv wt ms) : W.cell? ⟨w.heap.size, 0, none⟩ = some sv := by simp [World.cell?, h.box]
theorem KpW.drew {w W : World} {sv lv : Value} {wt ms : Int} (h : KpW w W sv lv wt ms) : KpW w W.drew sv lv wt ms := ⟨h.bel.drew, h.box⟩
theorem KpW.drewN {w W : World} {sv lv : Value} {wt ms : Int} (h : KpW w W sv lv wt ms) (q : Nat) : KpW w (W.drewN q) sv lv wt ms := ⟨h.bel.trans ⟨rfl, rfl, rfl, Nat.le_refl _, fun _ _ => rfl⟩, h.box⟩
theorem KpW.alloc {w W : World} {sv lv : Value} {wt ms : Int} (h : KpW w W sv lv wt ms) (o : Obj) : KpW w (W.alloc o) sv lv wt ms := ⟨below_alloc_ h.bel o, (Below.heap_alloc _ _ _ (lt_of_block h.box)).trans h.box⟩
theorem KpW.gr {w W W' : World} {sv lv : Value} {wt ms : Int} {r : Option Nat} (h : KpW w W sv lv wt ms) (hg : W.grownBy W' r) (hr : ∀ k, r = some k → w.heap.size ≤ k ∧ k ≠ w.heap.size) : KpW w W' sv lv wt ms :=
  ⟨h.bel.grown hg h.bel.size fun k hk => (hr k hk).1, (hg.block _ (lt_of_block h.box) fun e => (hr _ e.symm).2 rfl).trans h.box⟩
theorem ownW_drewN {w : World} {B : Nat} {e : TypeId} {v : Value} {n k : Nat} {xs : List Value} (h : w.ownsRow B e k v n xs) (q : Nat) : (w.drewN q).ownsRow B e k v n xs := h
def iC (l : List Int) : List Value := l.map (Value.int .i64)
theorem iC_get {l : List Int} {j : Nat} {x : Int} (h : l[j]? = some x) : (iC l)[j]? = some (.int .i64 x) := by unfold iC; rw [List.getElem?_map, h]; rfl
theorem psh_store {O : List Int} {p : Nat} {f e : Int} (hO : O.length = p + 1) (hp : O[p]? = some f) : psh O f e = O.set p e ∧ (O.set p e).length = p + 1 := by
  refine ⟨?_, by rw [List.length_set]; exact hO⟩
  unfold psh
  rw [if_pos (by rw [List.getLast?_eq_getElem?, hO]; exact hp)]
  have hne : O ≠ [] := fun h => by rw [h] at hO; cases hO
  have h1 : O = O.dropLast ++ [O.getLast hne] := (List.dropLast_concat_getLast hne).symm
  have h2 : O.dropLast.length = p := by rw [List.length_dropLast]; omega
  conv => rhs; rw [h1]
  rw [List.set_append, if_neg (by omega), h2]
  simp
theorem psh_new {O : List Int} {f e : Int} (h : O = [] ∨ ∃ p x, O.length = p + 1 ∧ O[p]? = some x ∧ x ≠ f) : psh O f e = O ++ [f, e] := by
  unfold psh
  rw [if_neg]
  rcases h with rfl | ⟨p, x, h1, h2, h3⟩
  · simp
  · rw [List.getLast?_eq_getElem?, h1]
    show ¬ O[p]? = some f
    rw [h2]
    exact fun e => h3 (Option.some.inj e)
set_option maxRecDepth 100000 in
set_option maxHeartbeats 4000000 in
theorem spans_any (sx : Option Addr) (sc : Nat) (sent : List Snt) (lv : Value) (wt ms : Int) (w : World) (h : Seg w 49 4 (.slice sx sent.length sc) sent.length (flt Snt.cs sent)) (hl : sent.length ≤ 60) :
    Calls Tryz.prog 16 #[.agg #[.slice sx sent.length sc, lv, .int .i64 wt, .int .i64 ms]] w fun e w' => ∃ v, e = .returned v ∧ w'.ownsRow w.heap.size 3 1 v (spn sent).length (iC (spn sent)) ∧ Below w.heap.size w w' := by
  have HSA : Hid (∀ i s, sent[i]? = some s → ∃ b off, sx = some ⟨b, off, none⟩ ∧ b < w.heap.size ∧ w.cell? ⟨b, off + i * 4 + 1, none⟩ = some (.int .i64 s.f) ∧ w.cell? ⟨b, off + i * 4 + 2, none⟩ = some (.int .i64 s.t)) := fun i s hs => sent_at h hs (List.getElem?_eq_some_iff.1 hs).1
  obtain ⟨i0, hi0, hz0, hz1, hz2⟩ := info_parts infoIntW
  obtain ⟨m, hm⟩ : ∃ m, sent.length = m := ⟨_, rfl⟩
  have HM : Hid (sent.length = m) := hm
  rw [hm] at hl ⊢
  have HBX : Hid ((w.alloc (.cells #[.slice sx m sc, lv, .int .i64 wt, .int .i64 ms] 41)).heap[w.heap.size]? = some (.cells #[.slice sx m sc, lv, .int .i64 wt, .int .i64 ms] 41 (0, 0))) := new_block _ _
  clear h hm
  go_enter Tryz.func16, Tryz.ntmps16
  go_wp2
  go_loopg [3, 4] m (fun g v3 v4 wx => ∃ i : Nat, i + g = m ∧ v4 = .int .i64 i ∧ Hid (wx.ownsRow w.heap.size 3 1 v3 (spn (sent.take i)).length (iC (spn (sent.take i)))) ∧ Hid (Below w.heap.size w wx) ∧ Hid (wx.heap[w.heap.size]? = some (.cells #[.slice sx m sc, lv, .int .i64 wt, .int .i64 ms] 41 (0, 0))))
  case atStart => exact ⟨0, by omega, rfl, World.ownsRow_nil _ _ _ _, below_alloc_ (Below.refl _ _) _, HBX.out⟩
  case round =>
    obtain ⟨i, hig, rfl, HO, HB, HX⟩ := hrel
    have hbx := HX.out
    have x0 : wr.cell? ⟨w.heap.size, 0, none⟩ = some (.slice sx m sc) := by simp [World.cell?, hbx]
    have hbl := lt_of_block hbx
    clear hbx
    by_cases hi : i < m
    · have hi1 : (i : Int) < m := by omega
      obtain ⟨s, hs⟩ : ∃ s, sent[i]? = some s := ⟨_, List.getElem?_eq_getElem (by have := HM.out; omega)⟩
      obtain ⟨b, off, hsx, hb0, c1, c2⟩ := HSA.out i s hs
      subst hsx
      replace c1 := (HB.out.cell (p := ⟨b, off + i * 4 + 1, none⟩) hb0).trans c1
      replace c2 := (HB.out.cell (p := ⟨b, off + i * 4 + 2, none⟩) hb0).trans c2
      have HTK : Hid (spn (sent.take (i + 1)) = psh (spn (sent.take i)) s.f s.t) := by
        show _ = _
        rw [List.take_add_one, hs, ← spn_snoc]
        rfl
      have hol := spn_len (sent.take i)
      rw [List.length_take] at hol
      obtain ⟨O, HO0⟩ : ∃ O, Hid (spn (sent.take i) = O) := ⟨_, rfl⟩
      rw [HO0.out] at HO HTK hol
      obtain ⟨q, hq⟩ : ∃ q, O.length = q := ⟨_, rfl⟩
      have HQ : Hid (O.length = q) := hq
      rw [hq] at HO hol
      clear hs hq
      obtain ⟨sf, HSF⟩ : ∃ sf, Hid (s.f = sf) := ⟨_, rfl⟩
      obtain ⟨st, HST⟩ : ∃ st, Hid (s.t = st) := ⟨_, rfl⟩
      rw [HSF.out] at c1 HTK
      rw [HST.out] at c2 HTK
      have hbw := hb0
      have HC1 : Hid (∀ W, Below w.heap.size w W → W.cell? ⟨b, off + i * 4 + 1, none⟩ = some (.int .i64 sf)) := fun W hb => by
        have h1 := hb.cell (p := ⟨b, off + i * 4 + 1, none⟩) hbw
        have h2 := HB.out.cell (p := ⟨b, off + i * 4 + 1, none⟩) hbw
        rw [h1, ← h2]; exact c1
      have HC2 : Hid (∀ W, Below w.heap.size w W → W.cell? ⟨b, off + i * 4 + 2, none⟩ = some (.int .i64 st)) := fun W hb => by
        have h1 := hb.cell (p := ⟨b, off + i * 4 + 2, none⟩) hbw
        have h2 := HB.out.cell (p := ⟨b, off + i * 4 + 2, none⟩) hbw
        rw [h1, ← h2]; exact c2
      cases q with
      | zero =>
        have HPS : Hid (psh O sf st = O ++ [sf, st]) := psh_new (Or.inl (List.length_eq_zero_iff.1 HQ.out))
        obtain ⟨ox, oc, rfl⟩ := owns_sliceW HO.out
        have HTN : Hid (iC (spn (sent.take (i + 1))) = iC O ++ [.int .i64 sf, .int .i64 st] ∧ (spn (sent.take (i + 1))).length = 0 + 2) := by
          constructor
          · rw [HTK.out, HPS.out]
            simp [iC]
          · rw [HTK.out, HPS.out, List.length_append, HQ.out]
            rfl
        have HKP : Hid (KpW w wr (.slice (some ⟨b, off, none⟩) m sc) lv wt ms) := ⟨HB.out, HX.out⟩
        have HOB : Hid (∀ k, (Value.slice ox 0 oc).ownBlock = some k → w.heap.size ≤ k ∧ k ≠ w.heap.size) := fun k hk => ⟨(ownW_lt HO.out hk).1, fun e => by
          obtain ⟨cur, hc⟩ := (ownW_lt HO.out hk).2.2
          rw [e, HX.out] at hc
          cases hc⟩
        have HSS : Hid (∀ W, KpW w W (.slice (some ⟨b, off, none⟩) m sc) lv wt ms → W.cell? ⟨b, off + i * 4 + 1, none⟩ = some (.int .i64 sf) ∧ W.cell? ⟨b, off + i * 4 + 2, none⟩ = some (.int .i64 st) ∧ W.cell? ⟨w.heap.size, 0, none⟩ = some (.slice (some ⟨b, off, none⟩) m sc) ∧ KpW w W (.slice (some ⟨b, off, none⟩) m sc) lv wt ms) := fun W hk => ⟨HC1.out W hk.1, HC2.out W hk.1, hk.cell, hk⟩
        have b1 : 0 + 2 ≤ maxLen := by unfold maxLen; omega
        have b2 : (0 + 2) * 8 ≤ 140737488355328 := by omega
        go_wp2
        go_quiet (fail)
        clear c1 c2 x0
        go_wp2_with fail
        go_region_held3 (fun W => W.cell? ⟨b, off + i * 4 + 1, none⟩ = some (.int .i64 sf) ∧ W.cell? ⟨b, off + i * 4 + 2, none⟩ = some (.int .i64 st) ∧ W.cell? ⟨w.heap.size, 0, none⟩ = some (.slice (some ⟨b, off, none⟩) m sc) ∧ KpW w W (.slice (some ⟨b, off, none⟩) m sc) lv wt ms)
          ((refine HSS.out _ ?_; (repeat (first | (with_reducible exact HKP.out) | assumption | (with_reducible refine KpW.drew ?_) | (with_reducible refine KpW.drewN ?_ _) | (with_reducible refine KpW.alloc ?_ _) | (with_reducible refine KpW.gr ?_ hgA HOB.out)))))
          ((refine step_append_owns (by rfl) (.tmp 41) (.tmp 54) 22 (by rfl) w.heap.size 3 i0 (.int .i64 0) 1 8 Tryz.underlying22 hi0 hz0 hz1 hz2 rfl (by decide) (.slice ox 0 oc) 0 (iC O) (by rfl) (by repeat (first | (with_reducible exact HO.out) | (with_reducible refine ownW_drew ?_) | (with_reducible refine ownW_drewN ?_ _) | (with_reducible refine ownW_alloc ?_ _))) _ 2 2 [.int .i64 sf, .int .i64 st] (by rfl) rfl (news_of (new_block_ (by simp))) (by simp [Value.oneCell']) b1 b2 (by refine bel_sizeW ?_; refine KpW.bel (sv := .slice (some ⟨b, off, none⟩) m sc) (lv := lv) (wt := wt) (ms := ms) ?_; (repeat (first | (with_reducible exact HKP.out) | (with_reducible refine KpW.drew ?_) | (with_reducible refine KpW.drewN ?_ _) | (with_reducible refine KpW.alloc ?_ _)))) ?_; intro va wA hoA hgA))
        all_goals
          go_wp2
          go_roundg (gk - 1)
          case measure => omega
          case rel =>
            have hk : KpW w _ (.slice (some ⟨b, off, none⟩) m sc) lv wt ms := (by (repeat (first | (with_reducible exact HKP.out) | (with_reducible refine KpW.drew ?_) | (with_reducible refine KpW.drewN ?_ _) | (with_reducible refine KpW.alloc ?_ _))) : KpW w _ (.slice (some ⟨b, off, none⟩) m sc) lv wt ms).gr hgA HOB.out
            refine ⟨i + 1, by omega, by go_num, ?_, hk.1, hk.2⟩
            show World.ownsRow _ _ _ _ _ _ _
            rw [HTN.out.1, HTN.out.2]
            exact hoA
      | succ p =>
        obtain ⟨x, hx⟩ : ∃ x, O[p]? = some x := ⟨_, List.getElem?_eq_getElem (by have := HQ.out; omega)⟩
        obtain ⟨g, cap, cur, rfl, hg, hh, hn, hxm, hsz, htk⟩ := own_someW HO.out (by omega)
        obtain ⟨y0, z0⟩ := ownW_cell HO.out (iC_get hx)
        have HXO : Hid (O[p]? = some x) := hx
        have HGB : Hid (w.heap.size ≤ g) := hg
        have hp1 : IntKind.i64.wrap (((p + 1 : Nat) : Int) - 1) = (p : Int) := by rw [IntKind.wrap_i64]; omega
        have hp2 : (0 : Int) < ((p + 1 : Nat) : Int) := by omega
        have hp3 : (p : Int) < ((p + 1 : Nat) : Int) := by omega
        have hne : g ≠ w.heap.size := fun e => by
          rw [e, HX.out] at hh
          cases hh
        have hgl := lt_of_block hh
        clear hh hg hn hxm hsz htk hx
        by_cases hxf : x = sf
        · have HPS := psh_store (e := st) HQ.out (HXO.out.trans (by rw [hxf]) : O[p]? = some sf)
          have d1 : (x == sf) = true := by simpa using hxf
          have HTN : Hid (spn (sent.take (i + 1)) = O.set p st) := by rw [HTK.out]; exact HPS.1
          clear HPS
          go_wp2
          go_quiet (fail)
          go_wp2
          go_roundg (gk - 1)
          case measure => omega
          case rel =>
            refine ⟨i + 1, by omega, by go_num, ?_, ?_, ?_⟩
            · show World.ownsRow _ _ _ _ _ _ _
              have e1 : (O.set p st).length = p + 1 := by rw [List.length_set]; exact HQ.out
              have e2 : iC (O.set p st) = (iC O).set p (.int .i64 st) := List.map_set
              rw [HTN.out, e1, e2]
              exact ownW_set (w := wr.drewN _) HO.out _
            · exact Below.setCell (p := ⟨g, p, none⟩) (w := wr.drewN _) (HB.out.trans (b := wr) ⟨rfl, rfl, rfl, Nat.le_refl _, fun _ _ => rfl⟩) HGB.out _
            · exact (Below.heap_setCell _ _ _ _ (fun e => hne e.symm)).trans HX.out
        · have d1 : (x == sf) = false := by simpa using hxf
          have HPS : Hid (psh O sf st = O ++ [sf, st]) := psh_new (Or.inr ⟨p, x, HQ.out, HXO.out, hxf⟩)
          clear hxf
          have HTN : Hid (iC (spn (sent.take (i + 1))) = iC O ++ [.int .i64 sf, .int .i64 st] ∧ (spn (sent.take (i + 1))).length = (p + 1) + 2) := by
            constructor
            · rw [HTK.out, HPS.out]
              simp [iC]
            · rw [HTK.out, HPS.out, List.length_append, HQ.out]
              rfl
          have HKP : Hid (KpW w wr (.slice (some ⟨b, off, none⟩) m sc) lv wt ms) := ⟨HB.out, HX.out⟩
          have HOB : Hid (∀ k, (Value.slice (some ⟨g, 0, none⟩) (p + 1) cap).ownBlock = some k → w.heap.size ≤ k ∧ k ≠ w.heap.size) := fun k hk => ⟨(ownW_lt HO.out hk).1, fun e => by
            obtain ⟨cur, hc⟩ := (ownW_lt HO.out hk).2.2
            rw [e, HX.out] at hc
            cases hc⟩
          have HSS : Hid (∀ W, KpW w W (.slice (some ⟨b, off, none⟩) m sc) lv wt ms → W.cell? ⟨b, off + i * 4 + 1, none⟩ = some (.int .i64 sf) ∧ W.cell? ⟨b, off + i * 4 + 2, none⟩ = some (.int .i64 st) ∧ W.cell? ⟨w.heap.size, 0, none⟩ = some (.slice (some ⟨b, off, none⟩) m sc) ∧ KpW w W (.slice (some ⟨b, off, none⟩) m sc) lv wt ms) := fun W hk => ⟨HC1.out W hk.1, HC2.out W hk.1, hk.cell, hk⟩
          have b1 : (p + 1) + 2 ≤ maxLen := by unfold maxLen; omega
          have b2 : ((p + 1) + 2) * 8 ≤ 140737488355328 := by omega
          go_wp2
          go_quiet (fail)
          clear c1 c2 x0
          go_wp2_with fail
          go_region_held3 (fun W => W.cell? ⟨b, off + i * 4 + 1, none⟩ = some (.int .i64 sf) ∧ W.cell? ⟨b, off + i * 4 + 2, none⟩ = some (.int .i64 st) ∧ W.cell? ⟨w.heap.size, 0, none⟩ = some (.slice (some ⟨b, off, none⟩) m sc) ∧ KpW w W (.slice (some ⟨b, off, none⟩) m sc) lv wt ms)
            ((refine HSS.out _ ?_; (repeat (first | (with_reducible exact HKP.out) | assumption | (with_reducible refine KpW.drew ?_) | (with_reducible refine KpW.drewN ?_ _) | (with_reducible refine KpW.alloc ?_ _) | (with_reducible refine KpW.gr ?_ hgA HOB.out)))))
            ((refine step_append_owns (by rfl) (.tmp 41) (.tmp 54) 22 (by rfl) w.heap.size 3 i0 (.int .i64 0) 1 8 Tryz.underlying22 hi0 hz0 hz1 hz2 rfl (by decide) (.slice (some ⟨g, 0, none⟩) (p + 1) cap) (p + 1) (iC O) (by rfl) (by repeat (first | (with_reducible exact HO.out) | (with_reducible refine ownW_drew ?_) | (with_reducible refine ownW_drewN ?_ _) | (with_reducible refine ownW_alloc ?_ _))) _ 2 2 [.int .i64 sf, .int .i64 st] (by rfl) rfl (news_of (new_block_ (by simp))) (by simp [Value.oneCell']) b1 b2 (by refine bel_sizeW ?_; refine KpW.bel (sv := .slice (some ⟨b, off, none⟩) m sc) (lv := lv) (wt := wt) (ms := ms) ?_; (repeat (first | (with_reducible exact HKP.out) | (with_reducible refine KpW.drew ?_) | (with_reducible refine KpW.drewN ?_ _) | (with_reducible refine KpW.alloc ?_ _)))) ?_; intro va wA hoA hgA))
          all_goals
            go_wp2
            go_roundg (gk - 1)
            case measure => omega
            case rel =>
              have hk : KpW w _ (.slice (some ⟨b, off, none⟩) m sc) lv wt ms := (by (repeat (first | (with_reducible exact HKP.out) | (with_reducible refine KpW.drew ?_) | (with_reducible refine KpW.drewN ?_ _) | (with_reducible refine KpW.alloc ?_ _))) : KpW w _ (.slice (some ⟨b, off, none⟩) m sc) lv wt ms).gr hgA HOB.out
              refine ⟨i + 1, by omega, by go_num, ?_, hk.1, hk.2⟩
              show World.ownsRow _ _ _ _ _ _ _
              rw [HTN.out.1, HTN.out.2]
              exact hoA
    · have hi1 : ¬ (i : Int) < m := by omega
      obtain ⟨ox, oc, rfl⟩ := owns_sliceW HO.out
      have HE : Hid (sent.take i = sent) := List.take_of_length_le (by have := HM.out; omega)
      go_wp2
      go_ret
      refine ⟨_, rfl, ?_, HB.out⟩
      have h5 := HO.out
      rw [HE.out] at h5
      show wr.ownsRow w.heap.size 3 1 (.slice ox (spn (sent.take i)).length oc) _ _
      rw [HE.out]
      exact h5
end Go.Proofs.YtfakjedolecdcaaGreatDoor
namespace Go.Proofs.YtfakjedolecdcaaGreatDoor
open Go.RowKit Go.Extern.Stop Go.Stop Go.Extern

set_option maxRecDepth 100000 in
set_option maxHeartbeats 4000000 in
theorem busy_no (n t : Int) (x : Option Addr) (cap : Nat) (items : List It) (ls : Int) (w : World) (hG : Glob w) (hL : Laid w) (hit : ItemsAt w x items) (h40 : items.length ≤ 40) (hbad : ¬ (okRate n t = true ∧ okL items)) :
    Calls Tryz.prog 5 #[.agg #[.int .i64 n, .int .i64 t], .slice x items.length cap, .int .i64 ls] w fun e w' => e = .returned (.bool true) ∧ Below w.heap.size w w' := by
  have HRN : Hid (∀ w1, Below w.heap.size w w1 → Calls Tryz.prog 11 #[.string ⟨#[102, 105, 102, 111, 32, 49, 48, 48, 48, 32, 49, 48, 48, 48, 48, 48, 48]⟩, .agg #[.int .i64 n, .int .i64 t], .slice x items.length cap, .int .i64 9000000] w1 fun e w' => e = .returned (.tuple #[.agg #[.slice none 0 0, .slice none 0 0, .int .i64 0, .int .i64 0], .bool false]) ∧ Below w1.heap.size w1 w') := fun w1 h1 => runF_no n t x cap items 9000000 w1 (hG.below h1) (hL.below h1) hbad (hit.below h1) (by unfold maxLen; omega)
  have HLT : Hid (∀ w1, Below w.heap.size w w1 → Calls Tryz.prog 12 #[] w1 fun e w' => e = .returned (.bool true) ∧ Below w1.heap.size w1 w') := fun w1 h1 => linked_true w1 (hL.below h1)
  have HPT : Hid (∀ w1, Below w.heap.size w w1 → Calls Tryz.prog 8 #[] w1 fun e w' => e = .returned (.bool true) ∧ Below w1.heap.size w1 w') := fun w1 h1 => planted_true w1 (hG.below h1)
  have a1 : decide ((40 : Int) < (items.length : Int)) = false := by simp; omega
  clear hG hL hit h40 hbad
  go_enter Tryz.func5, Tryz.ntmps5
  go_wp2_with (go_at_call 11; fail)
  have hb0 : Below w.heap.size w (w.alloc (.cells #[.int .i64 n, .int .i64 t] 37)) := below_alloc_ (Below.refl _ _) _
  refine (HRN.out _ hb0).mono ?_
  rintro e w1 ⟨rfl, hb1⟩
  have HB1 : Hid (Below w.heap.size w w1) := hb0.trans (hb1.mono hb0.size)
  clear hb0 hb1
  go_wp2_with (go_at_call 12; fail)
  have hb2 : Below w.heap.size w (w1.alloc (.cells #[.slice none 0 0, .slice none 0 0, .int .i64 0, .int .i64 0] 41)) := HB1.out.alloc HB1.out.size _
  refine (HLT.out _ hb2).mono ?_
  rintro e w2 ⟨rfl, hb22⟩
  have HB2 : Hid (Below w.heap.size w w2) := hb2.trans (hb22.mono hb2.size)
  clear hb2 hb22
  go_wp2_with (go_at_call 8; fail)
  refine (HPT.out _ HB2.out).mono ?_
  rintro e w3 ⟨rfl, hb3⟩
  have HB3 : Hid (Below w.heap.size w w3) := HB2.out.trans (hb3.mono HB2.out.size)
  clear hb3
  go_wp2_with (go_at_call 12; fail)
  refine (HLT.out _ HB3.out).mono ?_
  rintro e w4 ⟨rfl, hb4⟩
  have HB4 : Hid (Below w.heap.size w w4) := HB3.out.trans (hb4.mono HB3.out.size)
  clear hb4
  go_wp2_with (go_at_call 8; fail)
  refine (HPT.out _ HB4.out).mono ?_
  rintro e w5 ⟨rfl, hb5⟩
  have HB5 : Hid (Below w.heap.size w w5) := HB4.out.trans (hb5.mono HB4.out.size)
  clear hb5
  go_wp2
  go_ret
  exact ⟨rfl, HB5.out⟩
theorem busy_long (n t : Int) (x : Option Addr) (cap len : Nat) (ls : Int) (w : World) (h40 : 40 < len) :
    Calls Tryz.prog 5 #[.agg #[.int .i64 n, .int .i64 t], .slice x len cap, .int .i64 ls] w fun e w' => e = .returned (.bool true) ∧ Below w.heap.size w w' := by
  have a1 : decide ((40 : Int) < (len : Int)) = true := by simp; omega
  clear h40
  go_enter Tryz.func5, Tryz.ntmps5
  go_wp2
  go_ret
  exact ⟨rfl, below_alloc_ (Below.refl _ _) _⟩
/-- sameInts of two rows that are alike. -/
theorem sameI_any (l : List Int) (v1 v2 : Value) (B1 B2 : Nat) (w : World) (h1 : w.ownsRow B1 3 1 v1 l.length (iC l)) (h2 : w.ownsRow B2 3 1 v2 l.length (iC l)) :
    Calls Tryz.prog 17 #[v1, v2] w fun e w' => e = .returned (.bool true) ∧ Below w.heap.size w w' := by
  obtain ⟨x1, n1, rfl⟩ := owns_sliceW h1
  obtain ⟨x2, n2, rfl⟩ := owns_sliceW h2
  have H1 : Hid (w.ownsRow B1 3 1 (.slice x1 l.length n1) l.length (iC l)) := h1
  have H2 : Hid (w.ownsRow B2 3 1 (.slice x2 l.length n2) l.length (iC l)) := h2
  have hne : ((l.length : Int) != l.length) = false := by simp
  obtain ⟨m, hm⟩ : ∃ m, l.length = m := ⟨_, rfl⟩
  have HM : Hid (l.length = m) := hm
  have hm63 : (m : Int) ≤ 9223372036854775807 := by
    by_cases h0 : m = 0
    · omega
    · obtain ⟨g, cap, cur, _, _, _, h3, h4, _⟩ := own_someW h1 (by omega)
      unfold maxLen at h4
      omega
  rw [hm] at H1 H2 hne ⊢
  clear h1 h2 hm
  go_enter Tryz.func17, Tryz.ntmps17
  go_wp2
  go_loopg [5] m (fun g v5 wx => ∃ i : Nat, i + g = m ∧ v5 = .int .i64 i ∧ ∃ q, wx = w.drewN q)
  case atStart => exact ⟨0, by omega, rfl, 0, rfl⟩
  case round =>
    obtain ⟨i, hig, rfl, q, rfl⟩ := hrel
    by_cases hi : i < m
    · obtain ⟨s, hs⟩ : ∃ s, l[i]? = some s := ⟨_, List.getElem?_eq_getElem (by have := HM.out; omega)⟩
      obtain ⟨g1, cap1, cur1, e1, _⟩ := own_someW H1.out (by omega)
      obtain ⟨g2, cap2, cur2, e2, _⟩ := own_someW H2.out (by omega)
      simp only [Value.slice.injEq, true_and] at e1 e2
      obtain ⟨rfl, rfl⟩ := e1
      obtain ⟨rfl, rfl⟩ := e2
      have c1 := (ownW_cell H1.out (iC_get hs)).1
      have c2 := (ownW_cell H2.out (iC_get hs)).1
      have hi1 : (i : Int) < m := by omega
      have hq2 : (s != s) = false := by simp
      clear hs
      go_wp2
      go_quiet (fail)
      go_wp2
      go_roundg (gk - 1)
      case measure => omega
      case rel => exact ⟨i + 1, by omega, by go_num, _, rfl⟩
    · have hi1 : ¬ (i : Int) < m := by omega
      go_wp2
      go_ret
      exact ⟨rfl, (Below.refl _ _).trans ⟨rfl, rfl, rfl, Nat.le_refl _, fun _ _ => rfl⟩⟩
end Go.Proofs.YtfakjedolecdcaaGreatDoor
