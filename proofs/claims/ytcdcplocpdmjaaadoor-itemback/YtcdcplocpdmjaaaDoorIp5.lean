/-
  item.Parse: any text is read, or refused with the place. Conditions: what strconv and bytealg lay is laid; errors.errorType holds its handle; the text has 20000 bytes at most.
-/
import Derived.Test.YtcdcplocpdmjaaaDoorIp4
namespace Go.Proofs.YtcdcplocpdmjaaaDoor
open Go.RowKit Go.Shelf Go.Extern.Stop Go.Stop Go.Extern
attribute [local go_sem] Oper.semAt_some

theorem keeps_below {W W' : World} (h : Below W.heap.size W W') : KeepsOthers W W' := ⟨h.size, fun k _ hk _ => (h.block k (lt_of_block hk)).trans hk⟩
theorem cell1 {w : World} {b : Nat} {v : Value} {T : TypeId} (hb : w.heap[b]? = some (.cells #[v] T (0, 0))) : w.cell? ⟨b, 0, none⟩ = some v ∧ w.frozen? ⟨b, 0, none⟩ = false := by
  refine ⟨?_, ?_⟩
  all_goals simp [World.cell?, World.frozen?, hb]
theorem cell_set2 {W : World} {B a o : Nat} {u v : Value} (h : B + 4 ≤ a) : ((W.setCell ⟨B, 0, none⟩ u).setCell ⟨B + 1, 0, none⟩ v).cell? ⟨a, o, none⟩ = W.cell? ⟨a, o, none⟩ := by
  refine (World.cell?_of_block (w := W) ?_ : _ = W.cell? ⟨a, o, none⟩)
  rw [heap_setCell_other _ ⟨B + 1, 0, none⟩ a _ (by show a ≠ B + 1; omega), heap_setCell_other _ ⟨B, 0, none⟩ a _ (by show a ≠ B; omega)]
/-- A round has ended it: its results' boxes hold the error. -/
def IpX (w W0 : World) (c : Code) (pre : List LnT) (W : World) : Prop := c = .ret ∧ ∃ (ec : Int) (ep a : Nat), readL [] (pre.map Subtype.val) = .error (ec, ep) ∧ ec ≠ 0 ∧ W.heap[w.heap.size]? = some (.cells #[.slice none 0 0] 22 (0, 0)) ∧ W.heap[w.heap.size + 1]? = some (.cells #[.iface 75 (.pointer (some ⟨a, 0, none⟩))] 29 (0, 0)) ∧
  W.cell? ⟨a, 0, none⟩ = some (.int .i64 ec) ∧ W.cell? ⟨a, 0 + 1, none⟩ = some (.int .i64 ep) ∧ Below w.heap.size w W ∧ w.heap.size + 4 ≤ W0.heap.size ∧ W0.heap.size ≤ W.heap.size
def IpI (w W0 : World) (t : List UInt8) (pre : List LnT) (W : World) : Prop := ∃ lv l, readL [] (pre.map Subtype.val) = .ok l ∧ IpR w W0 t lv l W
theorem IpI.own (w W0 : World) (t : List UInt8) : OwnFrom W0.heap.size (IpI w W0 t) := fun _ _ _ _ ⟨lv, l, h1, h2⟩ hg hr => ⟨lv, l, h1, h2.grown hg hr⟩
theorem IpX.own (w W0 : World) (c : Code) : OwnFrom W0.heap.size (IpX w W0 c) := by
  rintro pre W W' row ⟨rfl, ec, ep, a, h1, h2, h3, h4, h5, h6, h7, h8, h9⟩ hg hr
  have hr2 : ∀ r, row = some r → ∃ o : Obj, W.heap[r]? = some o ∧ o.isCells = false := fun r e => (hr r e).2
  exact ⟨rfl, ec, ep, a, h1, h2, (cells_stay hg hr2 h3).trans h3, (cells_stay hg hr2 h4).trans h4, cell_kept h5 hg hr2, cell_kept h6 hg hr2, h7.grown hg h7.size (fun k e => by have := (hr k e).1; omega), h8, Nat.le_trans h9 hg.size⟩
/-- What item.Parse leaves. -/
def IpP (w : World) (R : Except (Int × Nat) (List It)) (e : Ending) (w' : World) : Prop := Below w.heap.size w w' ∧ ((∃ l lv, R = .ok l ∧ e = .returned (.tuple #[lv, .nilIface]) ∧ Seg w' 39 5 lv l.length (flt itC l) ∧ ∀ j, lv.ownBlock = some j → w.heap.size ≤ j) ∨
  ∃ (ec : Int) (ep a : Nat), R = .error (ec, ep) ∧ ec ≠ 0 ∧ e = .returned (.tuple #[.slice none 0 0, .iface 75 (.pointer (some ⟨a, 0, none⟩))]) ∧ w'.cell? ⟨a, 0, none⟩ = some (.int .i64 ec) ∧ w'.cell? ⟨a, 0 + 1, none⟩ = some (.int .i64 ep))
theorem results_cell_cell {fn : Func} {p q : Tmp} {ty u : TypeId} (h : fn.results = #[.cell p ty, .cell q u]) (tmps : Array Value) (P : Program) (w : World) :
    (results fn tmps).run P w = ((asAddr (tmps.getD p undef)).run P w).andThen fun a w₁ => ((loadVar ty a).run P w₁).andThen fun v w₂ => ((asAddr (tmps.getD q undef)).run P w₂).andThen fun b w₃ => ((loadVar u b).run P w₃).andThen fun v' w₄ => .ok (.tuple #[v, v']) w₄ := by
  simp only [results, h]
  simp [Sem.run_bind, Result.andThen]
set_option maxRecDepth 100000 in
set_option maxHeartbeats 8000000 in
theorem iparse_any (s : ByteArray) (w : World) (hs : s.size ≤ 20000) (hG : GlobM w) (hL : Laid w) :
    Calls Tryd.prog 6 #[.string s] w fun e w' => IpP w (parseI s.data.toList) e w' := by
  refine (callsIn_wide (n := 9)).1 ?_
  refine callsIn_of_wp_marks Tryd.func6 rfl trivial ?_ rfl
  simp only [Tryd.ntmps6, List.size_toArray, List.length_cons, List.length_nil, Nat.reduceAdd, Nat.reduceSub, Array.replicate_succ, Array.replicate_zero, List.push_toArray, List.append_toArray, List.nil_append, List.cons_append]
  have d1 : decide ((20000 : Int) < (s.size : Int)) = false := by simp; omega
  gi_wp2_with (refine ⟨trivial, ?_⟩; gi_at_call 16; refine (lines_in s _ _).mono ?_; rintro e w' ⟨rfl, rfl⟩)
  have e3 : w.heap.size + 1 + 1 + 1 = w.heap.size + 3 := rfl
  have e2 : w.heap.size + 1 + 1 = w.heap.size + 2 := rfl
  rw [e3, e2]
  clear e3 e2
  have HR0 : Hid (IpR w ((((w.alloc (.cells #[.slice none 0 0] 22)).alloc (.cells #[.nilIface] 29)).alloc (.cells #[.slice none 0 0] 22)).alloc (.cells #[.string s] 9)) s.data.toList (.slice none 0 0) [] ((((w.alloc (.cells #[.slice none 0 0] 22)).alloc (.cells #[.nilIface] 29)).alloc (.cells #[.slice none 0 0] 22)).alloc (.cells #[.string s] 9))) := by
    refine ⟨?_, ?_, ?_, ?_, Seg.nil _ _ _, fun j hj => by simp [Value.ownBlock] at hj, below_alloc_ (below_alloc_ (below_alloc_ (below_alloc_ (Below.refl _ _) _) _) _) _, by simp, Nat.le_refl _⟩
    · exact (Below.heap_alloc _ _ _ (by simp; omega)).trans ((Below.heap_alloc _ _ _ (by simp; omega)).trans ((Below.heap_alloc _ _ _ (by simp)).trans (new_block _ _)))
    · exact (Below.heap_alloc _ _ _ (by simp)).trans ((Below.heap_alloc _ _ _ (by simp)).trans (new_block_ (by simp)))
    · exact (Below.heap_alloc _ _ _ (by simp)).trans (new_block_ (by simp))
    · rw [new_block_ (by simp)]
  have hsz0 : s.data.toList.length = s.size := Array.length_toList
  generalize (((w.alloc (.cells #[.slice none 0 0] 22)).alloc (.cells #[.nilIface] 29)).alloc (.cells #[.slice none 0 0] 22)).alloc (.cells #[.string s] 9) = W0 at *
  have HTX : Hid (W0.cell? ⟨w.heap.size + 3, 0, none⟩ = some (.string ⟨s.data.toList.toArray⟩)) := by show _ = _; have h := HR0.out.tx; simp [World.cell?, h]
  have HGW : Hid (∀ W, Below w.heap.size w W → GlobM W) := fun W h => hG.below h
  have HLW : Hid (∀ W, Below w.heap.size w W → Laid W) := fun W h => hL.below h
  have HM0 : Hid (∃ m, W0.cell? ⟨2, 0, none⟩ = some (.int .i64 m)) := (hG.below HR0.out.bel).2
  have hg0 : 2 < w.heap.size := by obtain ⟨m, h⟩ := hG.2; exact cell_ltN h
  obtain ⟨i0, hi0, hz0, hz1, hz2⟩ := info_parts infoItem
  clear hG hL
  generalize htt : s.data.toList = t at *
  refine wpIn_rangeFunc_ownF rfl (by decide) (gf := 30) (lb := #[.pointer (some ⟨w.heap.size + 3, 0, none⟩)]) rfl trivial (enters_of Tryd.func30 (by kernel_rfl) rfl)
    (lines_stops _ (by decide) (w.heap.size + 3) t (by omega) W0 HTX.out HM0.out) (fun h k => KpT.trans h k) ?kb (Below.refl _ _) (fun _ => rfl)
    (IpI w W0 t) (IpX w W0) (IpI.own w W0 t) (IpX.own w W0) ⟨_, [], rfl, HR0.out⟩
    (fun x => { tmps := #[.string s, undef, .pointer (some ⟨w.heap.size, 0, none⟩), .pointer (some ⟨w.heap.size + 1, 0, none⟩), .pointer (some ⟨w.heap.size + 2, 0, none⟩), .int .i64 (x.1.1 : Int), .string ⟨x.1.2.toArray⟩, undef, undef, undef, .string s, .int .i64 (s.size : Int), .bool false, undef, .string s, .func (.func 30) #[] #[.pointer (some ⟨w.heap.size + 3, 0, none⟩)], .int .i64 (x.1.1 : Int), .string ⟨x.1.2.toArray⟩, undef, undef, undef, undef, undef, undef, undef, undef, undef, undef, undef, undef, undef, undef, undef, undef, undef, undef, undef, undef, undef, undef, undef, undef, undef, undef, undef, undef], defers := [] }) ?assign ?body ?done ?stop
  case kb =>
    intro W l o o' hl ho _ _
    have hsz := HR0.out.siz.1
    exact ⟨World.putObj_heap_other (by omega), World.putObj_heap_other (by omega)⟩
  case assign =>
    intro l x W K hK
    simp only [encL]
    gi_wp2
    exact hK
  case body =>
    rintro l pre ⟨⟨p, ln⟩, hln, hpl⟩ W ⟨lv, ls, hrd, hR⟩ hlen
    have HR : Hid (IpR w W0 t lv ls W) := hR
    have hll : ls.length ≤ 20001 := by have h := readL_len _ _ _ hrd; simp at h; omega
    have HRD : Hid (readL [] (pre.map Subtype.val) = .ok ls) := hrd
    have hsz : (⟨ln.toArray⟩ : ByteArray).size ≤ 20000 := by show ln.toArray.size ≤ 20000; rw [List.size_toArray]; exact hln
    have HRR := readRow_any ⟨ln.toArray⟩ W hsz (HGW.out W hR.bel)
    have e9 : (⟨ln.toArray⟩ : ByteArray).data.toList = ln := List.toList_toArray
    rw [e9] at HRR
    clear hR hrd hlen e9
    cases hrow : rowL ln with
    | none =>
      have HX : Hid (readL [] ((pre ++ [(⟨(p, ln), hln, hpl⟩ : LnT)]).map Subtype.val) = .error (3, p)) := by
        show _ = _
        rw [List.map_append, readL_app _ _ _ _ HRD.out]
        show readL ls [(p, ln)] = _
        rw [readL, hrow]
      have HRN : Hid (Calls Tryd.prog 17 #[.string ⟨ln.toArray⟩] W fun e w' => (∃ a b c d f, e = .returned (.tuple #[.agg #[.int .i64 a, .int .i64 b, .int .i64 c, .int .i64 d, .int .i64 f], .bool false])) ∧ Below W.heap.size W w') := by
        refine HRR.mono ?_
        rintro e w' ⟨⟨v, rfl, _, a, b, c, d, f, rfl⟩, hb⟩
        exact ⟨⟨a, b, c, d, f, by rw [hrow]; rfl⟩, hb⟩
      clear HRR hrow
      gi_wp2_with (first | (refine ⟨trivial, ?_⟩; gi_at_call 17; refine (CallsIn.inRound l (callsIn_wide.2 HRN.out)).mono ?_; rintro e w2 ⟨⟨a, b, c, d, f, rfl⟩, hb2⟩))
      have hbA : Below W.heap.size W (w2.alloc (.cells #[.int .i64 a, .int .i64 b, .int .i64 c, .int .i64 d, .int .i64 f] 51)) := below_alloc_ hb2 _
      have HRA := HR.out.below hbA
      refine ⟨trivial, ?_⟩
      refine (CallsIn.inRound l (callsIn_wide.2 (placed_errno 3 p _ (HLW.out _ HRA.bel)))).mono ?_
      rintro e w3 ⟨aa, rfl, haa, q0, q1, hb3⟩
      have hb4 : Below W.heap.size W w3 := hbA.trans (hb3.mono hbA.size)
      have HR3 : Hid (IpR w W0 t lv ls w3) := HR.out.below hb4
      obtain ⟨c0, f0⟩ := cell1 HR3.out.r0
      obtain ⟨c1, f1⟩ := cell1 HR3.out.r1
      have HK3 : Hid (KeepsOthers W w3) := keeps_below hb4
      have HA : Hid (w.heap.size + 4 ≤ aa) := by have h1 := HRA.siz; have h2 := h1.2; show _ ≤ _; omega
      clear hb2 hbA HRA hb3 hb4 haa
      gi_wp2
      refine ⟨(HK3.out.trans (KeepsOthers.setCell _ _ _)).trans (KeepsOthers.setCell _ _ _), rfl, 3, p, aa, HX.out, by decide, ?_, ?_, ?_, ?_, ?_, HR3.out.siz.1, ?_⟩
      · rw [heap_setCell_other _ ⟨w.heap.size + 1, 0, none⟩ w.heap.size _ (by show w.heap.size ≠ w.heap.size + 1; omega), heap_setCell_here HR3.out.r0]
        rfl
      · rw [heap_setCell_here (b := w.heap.size + 1) (e := 29) (cur := #[.nilIface]) ((heap_setCell_other _ ⟨w.heap.size, 0, none⟩ (w.heap.size + 1) _ (by show w.heap.size + 1 ≠ w.heap.size; omega)).trans HR3.out.r1)]
        rfl
      · exact (cell_set2 HA.out).trans q0
      · exact (cell_set2 HA.out).trans q1
      · exact (HR3.out.bel.setCell (Nat.le_refl _) _).setCell (by show w.heap.size ≤ w.heap.size + 1; omega) _
      · simpa using HR3.out.siz.2
    | some x =>
      have HRN : Hid (Calls Tryd.prog 17 #[.string ⟨ln.toArray⟩] W fun e w' => e = .returned (.tuple #[.agg #[.int .i64 x.a, .int .i64 x.l, .int .i64 x.f, .int .i64 x.b, .int .i64 x.m], .bool true]) ∧ Below W.heap.size W w') := by
        refine HRR.mono ?_
        rintro e w' ⟨⟨v, rfl, hv, _⟩, hb⟩
        exact ⟨by rw [hv x hrow, hrow]; rfl, hb⟩
      have HRW : Hid (rowL ln = some x) := hrow
      clear HRR hrow
      obtain ⟨kx, kc, rfl⟩ : ∃ y c, lv = .slice y ls.length c := by
        rcases HR.out.row.form with ⟨h, h0, _⟩ | ⟨_, _, _, h, _⟩
        · exact ⟨_, _, by rw [h, h0]⟩
        · exact ⟨_, _, h⟩
      gi_wp2_with (first | (refine ⟨trivial, ?_⟩; gi_at_call 17; refine (CallsIn.inRound l (callsIn_wide.2 HRN.out)).mono ?_; rintro e w2 ⟨rfl, hb2⟩))
      have hbA : Below W.heap.size W (w2.alloc (.cells #[.int .i64 x.a, .int .i64 x.l, .int .i64 x.f, .int .i64 x.b, .int .i64 x.m] 51)) := below_alloc_ hb2 _
      have k3 := new_block w2 (.cells #[.int .i64 x.a, .int .i64 x.l, .int .i64 x.f, .int .i64 x.b, .int .i64 x.m] 51)
      have HR3 : Hid (IpR w W0 t (.slice kx ls.length kc) ls (w2.alloc (.cells #[.int .i64 x.a, .int .i64 x.l, .int .i64 x.f, .int .i64 x.b, .int .i64 x.m] 51))) := HR.out.below hbA
      have HK3 : Hid (KeepsOthers W (w2.alloc (.cells #[.int .i64 x.a, .int .i64 x.l, .int .i64 x.f, .int .i64 x.b, .int .i64 x.m] 51))) := keeps_below hbA
      generalize hrb : w2.heap.size = rb at *
      generalize w2.alloc (.cells #[.int .i64 x.a, .int .i64 x.l, .int .i64 x.f, .int .i64 x.b, .int .i64 x.m] 51) = w3 at *
      obtain ⟨c2, f2⟩ := cell1 HR3.out.bx
      obtain ⟨⟨y0, y1, y2, y3, y4⟩, -⟩ := cells5f k3
      clear hb2 hbA
      have HIT : Hid (∀ W', Below w3.heap.size w3 W' → Calls Tryd.prog 19 #[.agg #[.int .i64 x.a, .int .i64 x.l, .int .i64 x.f, .int .i64 x.b, .int .i64 x.m]] W' fun e w' => e = .returned (.agg #[.int .i64 x.a, .int .i64 x.l, .int .i64 x.f, .int .i64 x.b, .int .i64 x.m]) ∧ Below w3.heap.size w3 w') := fun W' h => (ritem_any x W').mono fun e w' ⟨a, b⟩ => ⟨a, h.trans (b.mono h.size)⟩
      have hel : (ls ++ [x]).length = ls.length + 1 := by simp
      have HLI : Hid (∀ g off cap w6, IpR w W0 t (.slice (some ⟨g, off, none⟩) (ls.length + 1) cap) (ls ++ [x]) w6 → Calls Tryd.prog 10 #[.slice (some ⟨g, off, none⟩) (ls.length + 1) (ls.length + 1)] w6 fun e w' => ∃ v, e = .returned v ∧ ErrIs w' v (listE (ls ++ [x])).1 (listE (ls ++ [x])).2 ∧ Below w6.heap.size w6 w') := by
        intro g off cap w6 h
        have hr := h.row
        rw [hel] at hr
        have hI : Items w6 g off (ls ++ [x]) := seg_items (cap := cap) (by rw [hel]; exact hr)
        by_cases h100 : 100 < ls.length + 1
        · have he : listE (ls ++ [x]) = (4, -1) := by unfold listE; rw [hel, if_pos h100]
          refine (list_long _ _ _ w6 h100 (by unfold maxLen; omega)).mono ?_
          rintro e w' ⟨rfl, rfl⟩
          exact ⟨_, rfl, by rw [he]; exact Or.inr (Or.inl ⟨rfl, by decide, rfl⟩), Below.refl _ _⟩
        · have := list_some g off (ls.length + 1) (ls ++ [x]) w6 (HLW.out w6 h.bel) hI (by omega) (by omega)
          rw [hel] at this
          exact this
      have HGO : Hid ((listE (ls ++ [x])).1 = 0 → readL [] ((pre ++ [(⟨(p, ln), hln, hpl⟩ : LnT)]).map Subtype.val) = .ok (ls ++ [x])) := by
        intro h
        rw [List.map_append, readL_app _ _ _ _ HRD.out]
        show readL ls [(p, ln)] = _
        rw [readL, HRW.out]
        simp only [h, if_true]
        rfl
      have HER : Hid ((listE (ls ++ [x])).1 ≠ 0 → readL [] ((pre ++ [(⟨(p, ln), hln, hpl⟩ : LnT)]).map Subtype.val) = .error ((listE (ls ++ [x])).1, p)) := by
        intro h
        rw [List.map_append, readL_app _ _ _ _ HRD.out]
        show readL ls [(p, ln)] = _
        rw [readL, HRW.out]
        simp only [h, if_false]
      clear hel
      refine wpIn_region_any (by kernel_rfl) ?_
      change wpAnyIn _ _ _ _ _ _ _ _ _ (World.drew _)
      -- REGION
      refine wpAnyIn_ready (rs := [0, 1]) (by kernel_rfl) (by simp) ?_
      refine AllReadyIn.cons rfl (fun K hK => ?_) ?_
      · go_simp
        refine hK _ _ ?_
        clear hK K
        refine wpAnyIn_ready (rs := [1]) (by kernel_rfl) (by simp) ?_
        refine AllReadyIn.cons rfl (fun K hK => ?_) ?_
        · go_simp
          refine hK _ _ ?_
          clear hK K
          refine wpAnyIn_ready (rs := [2]) (by kernel_rfl) (by simp) ?_
          refine AllReadyIn.cons rfl (fun K hK => ?_) ?_
          · go_simp
            gi_wp2_with (refine ⟨trivial, ?_⟩; gi_at_call 19; refine (CallsIn.inRound l (callsIn_wide.2 (HIT.out _ (by first | exact (Below.refl _ _).drew | exact Below.refl _ _)))).mono ?_; rintro e w4 ⟨rfl, hb4⟩; have HB4 : Hid (Below w3.heap.size w3 w4) := hb4; have HR4 : Hid (IpR w W0 t (.slice kx ls.length kc) ls w4) := HR3.out.below hb4; obtain ⟨p2, g2⟩ := cell1 HR4.out.bx; have p2a : (w4.alloc (.cells #[.int .i64 x.a, .int .i64 x.l, .int .i64 x.f, .int .i64 x.b, .int .i64 x.m] 39)).cell? ⟨w.heap.size + 2, 0, none⟩ = some (.slice kx ls.length kc) := (cell1 (HR4.out.below (below_alloc_ (Below.refl _ _) _)).bx).1; clear hb4)
            refine wpAnyIn_ready (rs := [3]) (by kernel_rfl) (by simp) ?_
            refine AllReadyIn.cons rfl (fun K hK => ?_) ?_
            · go_simp
              refine hK _ _ ?_
              clear hK K
              refine wpAnyIn_ready (rs := [4]) (by kernel_rfl) (by simp) ?_
              refine AllReadyIn.cons rfl (fun K hK => ?_) ?_
              · refine stepIn_append_seg _ (by rfl) (.tmp 28) (.tmp 31) 22 (by rfl) 39 i0 _ 5 40 Tryd.underlying22 hi0 hz0 hz1 hz2 rfl (by decide) (.slice kx ls.length kc) ls.length (flt itC ls) (by rfl) (HR4.out.row.alloc _) ⟨w4.heap.size, 0, none⟩ 1 1 (itC x) (by rfl) rfl (news5 _ _ _ _ _ _ _) (itC_one x) (by decide) (by unfold maxLen; omega) (by omega) _ rfl ?_
                intro g1 off1 cap1 w5 hs5 hg5 ha5 hl5
                obtain ⟨d5, z5⟩ := HR4.out.mid (below_alloc_ (Below.refl _ _) _) hg5
                refine hK _ _ ?_
                clear hK K
                refine wpAnyIn_ready (rs := [5]) (by kernel_rfl) (by simp) ?_
                refine AllReadyIn.cons rfl (fun K hK => ?_) ?_
                · go_simp
                  refine hK _ _ ?_
                  clear hK K
                  refine wpAnyIn_done (by kernel_rfl) ?_ _
                  have HS6 : Hid (IpR w W0 t (.slice (some ⟨g1, off1, none⟩) (ls.length + 1) cap1) (ls ++ [x]) (w5.setCell ⟨w.heap.size + 2, 0, none⟩ (.slice (some ⟨g1, off1, none⟩) (ls.length + 1) cap1))) := HR4.out.step (below_alloc_ (Below.refl _ _) _) hg5 hs5 ha5
                  have HK6 : Hid (KeepsOthers W (w5.setCell ⟨w.heap.size + 2, 0, none⟩ (.slice (some ⟨g1, off1, none⟩) (ls.length + 1) cap1))) := (((HK3.out.trans (keeps_below HB4.out)).trans (KeepsOthers.alloc _ _)).trans (KeepsOthers.of_grownBy hg5 (fun j o e ho => by obtain ⟨cur, hc⟩ := HR4.out.row.ty e; rw [Below.heap_alloc _ _ _ (lt_of_block hc), hc] at ho; obtain rfl := Option.some.inj ho; rfl))).trans (KeepsOthers.setCell _ _ _)
                  have HT6 : Hid (KpT (w.heap.size + 3) W (w5.setCell ⟨w.heap.size + 2, 0, none⟩ (.slice (some ⟨g1, off1, none⟩) (ls.length + 1) cap1))) := ⟨HS6.out.tx.trans HR.out.tx.symm, (HS6.out.bel.block _ hg0).trans (HR.out.bel.block _ hg0).symm⟩
                  generalize w5.setCell ⟨w.heap.size + 2, 0, none⟩ (.slice (some ⟨g1, off1, none⟩) (ls.length + 1) cap1) = w6 at *
                  obtain ⟨c6, f6⟩ := cell1 HS6.out.bx
                  have HLC := HLI.out g1 off1 cap1 w6 HS6.out
                  have HX6 := hs5.2
                  have hcap : ls.length + 1 ≤ cap1 := by
                    rcases hs5.form with ⟨h, _⟩ | ⟨_, _, _, h, h9, _⟩
                    · simp at h
                    · simp only [Value.slice.injEq, Option.some.injEq, Addr.mk.injEq, and_true, true_and] at h; omega
                  clear hs5 hg5 ha5 hl5 d5 z5 HX6
                  by_cases hE : (listE (ls ++ [x])).1 = 0
                  · have HOK := HGO.out hE
                    have HLN : Hid (Calls Tryd.prog 10 #[.slice (some ⟨g1, off1, none⟩) (ls.length + 1) (ls.length + 1)] w6 fun e w' => e = .returned .nilIface ∧ Below w6.heap.size w6 w') := by
                      refine HLC.mono ?_
                      rintro e w' ⟨v, rfl, hv, hb⟩
                      rw [hE] at hv
                      obtain rfl := err_nil hv
                      exact ⟨rfl, hb⟩
                    clear HLC hE
                    gi_wp2_with (refine ⟨trivial, ?_⟩; gi_at_call 10; refine (CallsIn.inRound l (callsIn_wide.2 HLN.out)).mono ?_; rintro e w7 ⟨rfl, hb7⟩)
                    exact ⟨HK6.out.trans (keeps_below hb7), HT6.out.trans ⟨hb7.block _ (lt_of_block HS6.out.tx), hb7.block _ (Nat.lt_of_lt_of_le hg0 HS6.out.bel.size)⟩, _, _, HOK, HS6.out.below hb7⟩
                  · have HX : Hid (readL [] ((pre ++ [(⟨(p, ln), hln, hpl⟩ : LnT)]).map Subtype.val) = .error ((listE (ls ++ [x])).1, p)) := HER.out hE
                    have HNE : Hid ((listE (ls ++ [x])).1 ≠ 0) := hE
                    have HLN : Hid (Calls Tryd.prog 10 #[.slice (some ⟨g1, off1, none⟩) (ls.length + 1) (ls.length + 1)] w6 fun e w' => ∃ ty u, e = .returned (.iface ty u) ∧ ErrIs w' (.iface ty u) (listE (ls ++ [x])).1 (listE (ls ++ [x])).2 ∧ Below w6.heap.size w6 w') := by
                      refine HLC.mono ?_
                      rintro e w' ⟨v, rfl, hv, hb⟩
                      obtain ⟨ty, u, rfl⟩ := err_some hv hE
                      exact ⟨ty, u, rfl, hv, hb⟩
                    clear HLC hE
                    generalize (listE (ls ++ [x])).1 = EE at *
                    generalize (listE (ls ++ [x])).2 = EP at *
                    gi_wp2_with (refine ⟨trivial, ?_⟩; gi_at_call 10; refine (CallsIn.inRound l (callsIn_wide.2 HLN.out)).mono ?_; rintro e w7 ⟨ty, u, rfl, hv7, hb7⟩)
                    have HR7 := HS6.out.below hb7
                    refine ⟨trivial, ?_⟩
                    refine (CallsIn.inRound l (callsIn_wide.2 (placed_err p _ hv7 (HLW.out _ HR7.bel)))).mono ?_
                    rintro e w8 ⟨aa, rfl, haa, q0, q1, hb8⟩
                    have hb9 : Below w6.heap.size w6 w8 := hb7.trans (hb8.mono hb7.size)
                    have HR8 : Hid (IpR w W0 t (.slice (some ⟨g1, off1, none⟩) (ls.length + 1) cap1) (ls ++ [x]) w8) := HS6.out.below hb9
                    obtain ⟨c0, f0⟩ := cell1 HR8.out.r0
                    obtain ⟨c1, f1⟩ := cell1 HR8.out.r1
                    have HK8 : Hid (KeepsOthers W w8) := HK6.out.trans (keeps_below hb9)
                    have HA : Hid (w.heap.size + 4 ≤ aa) := by have h1 := HR7.siz; have h2 := h1.2; show _ ≤ _; omega
                    clear hb7 hb8 hb9 haa HR7 hv7 HK6 HT6 HS6
                    gi_wp2
                    refine ⟨(HK8.out.trans (KeepsOthers.setCell _ _ _)).trans (KeepsOthers.setCell _ _ _), rfl, EE, p, aa, HX.out, HNE.out, ?_, ?_, ?_, ?_, ?_, HR8.out.siz.1, ?_⟩
                    · rw [heap_setCell_other _ ⟨w.heap.size + 1, 0, none⟩ w.heap.size _ (by show w.heap.size ≠ w.heap.size + 1; omega), heap_setCell_here HR8.out.r0]
                      rfl
                    · rw [heap_setCell_here (b := w.heap.size + 1) (e := 29) (cur := #[.nilIface]) ((heap_setCell_other _ ⟨w.heap.size, 0, none⟩ (w.heap.size + 1) _ (by show w.heap.size + 1 ≠ w.heap.size; omega)).trans HR8.out.r1)]
                      rfl
                    · exact (cell_set2 HA.out).trans q0
                    · exact (cell_set2 HA.out).trans q1
                    · exact (HR8.out.bel.setCell (Nat.le_refl _) _).setCell (by show w.heap.size ≤ w.heap.size + 1; omega) _
                    · simpa using HR8.out.siz.2
                exact AllReadyIn.nil
              exact AllReadyIn.nil
            exact AllReadyIn.nil
          exact AllReadyIn.nil
        exact AllReadyIn.nil
      refine AllReadyIn.cons rfl (fun K hK => ?_) ?_
      · go_simp
        refine hK _ _ ?_
        clear hK K
        refine wpAnyIn_ready (rs := [0, 2]) (by kernel_rfl) (by simp) ?_
        refine AllReadyIn.cons rfl (fun K hK => ?_) ?_
        · go_simp
          refine hK _ _ ?_
          clear hK K
          refine wpAnyIn_ready (rs := [2]) (by kernel_rfl) (by simp) ?_
          refine AllReadyIn.cons rfl (fun K hK => ?_) ?_
          · go_simp
            gi_wp2_with (refine ⟨trivial, ?_⟩; gi_at_call 19; refine (CallsIn.inRound l (callsIn_wide.2 (HIT.out _ (by first | exact (Below.refl _ _).drew | exact Below.refl _ _)))).mono ?_; rintro e w4 ⟨rfl, hb4⟩; have HB4 : Hid (Below w3.heap.size w3 w4) := hb4; have HR4 : Hid (IpR w W0 t (.slice kx ls.length kc) ls w4) := HR3.out.below hb4; obtain ⟨p2, g2⟩ := cell1 HR4.out.bx; have p2a : (w4.alloc (.cells #[.int .i64 x.a, .int .i64 x.l, .int .i64 x.f, .int .i64 x.b, .int .i64 x.m] 39)).cell? ⟨w.heap.size + 2, 0, none⟩ = some (.slice kx ls.length kc) := (cell1 (HR4.out.below (below_alloc_ (Below.refl _ _) _)).bx).1; clear hb4)
            refine wpAnyIn_ready (rs := [3]) (by kernel_rfl) (by simp) ?_
            refine AllReadyIn.cons rfl (fun K hK => ?_) ?_
            · go_simp
              refine hK _ _ ?_
              clear hK K
              refine wpAnyIn_ready (rs := [4]) (by kernel_rfl) (by simp) ?_
              refine AllReadyIn.cons rfl (fun K hK => ?_) ?_
              · refine stepIn_append_seg _ (by rfl) (.tmp 28) (.tmp 31) 22 (by rfl) 39 i0 _ 5 40 Tryd.underlying22 hi0 hz0 hz1 hz2 rfl (by decide) (.slice kx ls.length kc) ls.length (flt itC ls) (by rfl) (HR4.out.row.alloc _) ⟨w4.heap.size, 0, none⟩ 1 1 (itC x) (by rfl) rfl (news5 _ _ _ _ _ _ _) (itC_one x) (by decide) (by unfold maxLen; omega) (by omega) _ rfl ?_
                intro g1 off1 cap1 w5 hs5 hg5 ha5 hl5
                obtain ⟨d5, z5⟩ := HR4.out.mid (below_alloc_ (Below.refl _ _) _) hg5
                refine hK _ _ ?_
                clear hK K
                refine wpAnyIn_ready (rs := [5]) (by kernel_rfl) (by simp) ?_
                refine AllReadyIn.cons rfl (fun K hK => ?_) ?_
                · go_simp
                  refine hK _ _ ?_
                  clear hK K
                  refine wpAnyIn_done (by kernel_rfl) ?_ _
                  have HS6 : Hid (IpR w W0 t (.slice (some ⟨g1, off1, none⟩) (ls.length + 1) cap1) (ls ++ [x]) (w5.setCell ⟨w.heap.size + 2, 0, none⟩ (.slice (some ⟨g1, off1, none⟩) (ls.length + 1) cap1))) := HR4.out.step (below_alloc_ (Below.refl _ _) _) hg5 hs5 ha5
                  have HK6 : Hid (KeepsOthers W (w5.setCell ⟨w.heap.size + 2, 0, none⟩ (.slice (some ⟨g1, off1, none⟩) (ls.length + 1) cap1))) := (((HK3.out.trans (keeps_below HB4.out)).trans (KeepsOthers.alloc _ _)).trans (KeepsOthers.of_grownBy hg5 (fun j o e ho => by obtain ⟨cur, hc⟩ := HR4.out.row.ty e; rw [Below.heap_alloc _ _ _ (lt_of_block hc), hc] at ho; obtain rfl := Option.some.inj ho; rfl))).trans (KeepsOthers.setCell _ _ _)
                  have HT6 : Hid (KpT (w.heap.size + 3) W (w5.setCell ⟨w.heap.size + 2, 0, none⟩ (.slice (some ⟨g1, off1, none⟩) (ls.length + 1) cap1))) := ⟨HS6.out.tx.trans HR.out.tx.symm, (HS6.out.bel.block _ hg0).trans (HR.out.bel.block _ hg0).symm⟩
                  generalize w5.setCell ⟨w.heap.size + 2, 0, none⟩ (.slice (some ⟨g1, off1, none⟩) (ls.length + 1) cap1) = w6 at *
                  obtain ⟨c6, f6⟩ := cell1 HS6.out.bx
                  have HLC := HLI.out g1 off1 cap1 w6 HS6.out
                  have HX6 := hs5.2
                  have hcap : ls.length + 1 ≤ cap1 := by
                    rcases hs5.form with ⟨h, _⟩ | ⟨_, _, _, h, h9, _⟩
                    · simp at h
                    · simp only [Value.slice.injEq, Option.some.injEq, Addr.mk.injEq, and_true, true_and] at h; omega
                  clear hs5 hg5 ha5 hl5 d5 z5 HX6
                  by_cases hE : (listE (ls ++ [x])).1 = 0
                  · have HOK := HGO.out hE
                    have HLN : Hid (Calls Tryd.prog 10 #[.slice (some ⟨g1, off1, none⟩) (ls.length + 1) (ls.length + 1)] w6 fun e w' => e = .returned .nilIface ∧ Below w6.heap.size w6 w') := by
                      refine HLC.mono ?_
                      rintro e w' ⟨v, rfl, hv, hb⟩
                      rw [hE] at hv
                      obtain rfl := err_nil hv
                      exact ⟨rfl, hb⟩
                    clear HLC hE
                    gi_wp2_with (refine ⟨trivial, ?_⟩; gi_at_call 10; refine (CallsIn.inRound l (callsIn_wide.2 HLN.out)).mono ?_; rintro e w7 ⟨rfl, hb7⟩)
                    exact ⟨HK6.out.trans (keeps_below hb7), HT6.out.trans ⟨hb7.block _ (lt_of_block HS6.out.tx), hb7.block _ (Nat.lt_of_lt_of_le hg0 HS6.out.bel.size)⟩, _, _, HOK, HS6.out.below hb7⟩
                  · have HX : Hid (readL [] ((pre ++ [(⟨(p, ln), hln, hpl⟩ : LnT)]).map Subtype.val) = .error ((listE (ls ++ [x])).1, p)) := HER.out hE
                    have HNE : Hid ((listE (ls ++ [x])).1 ≠ 0) := hE
                    have HLN : Hid (Calls Tryd.prog 10 #[.slice (some ⟨g1, off1, none⟩) (ls.length + 1) (ls.length + 1)] w6 fun e w' => ∃ ty u, e = .returned (.iface ty u) ∧ ErrIs w' (.iface ty u) (listE (ls ++ [x])).1 (listE (ls ++ [x])).2 ∧ Below w6.heap.size w6 w') := by
                      refine HLC.mono ?_
                      rintro e w' ⟨v, rfl, hv, hb⟩
                      obtain ⟨ty, u, rfl⟩ := err_some hv hE
                      exact ⟨ty, u, rfl, hv, hb⟩
                    clear HLC hE
                    generalize (listE (ls ++ [x])).1 = EE at *
                    generalize (listE (ls ++ [x])).2 = EP at *
                    gi_wp2_with (refine ⟨trivial, ?_⟩; gi_at_call 10; refine (CallsIn.inRound l (callsIn_wide.2 HLN.out)).mono ?_; rintro e w7 ⟨ty, u, rfl, hv7, hb7⟩)
                    have HR7 := HS6.out.below hb7
                    refine ⟨trivial, ?_⟩
                    refine (CallsIn.inRound l (callsIn_wide.2 (placed_err p _ hv7 (HLW.out _ HR7.bel)))).mono ?_
                    rintro e w8 ⟨aa, rfl, haa, q0, q1, hb8⟩
                    have hb9 : Below w6.heap.size w6 w8 := hb7.trans (hb8.mono hb7.size)
                    have HR8 : Hid (IpR w W0 t (.slice (some ⟨g1, off1, none⟩) (ls.length + 1) cap1) (ls ++ [x]) w8) := HS6.out.below hb9
                    obtain ⟨c0, f0⟩ := cell1 HR8.out.r0
                    obtain ⟨c1, f1⟩ := cell1 HR8.out.r1
                    have HK8 : Hid (KeepsOthers W w8) := HK6.out.trans (keeps_below hb9)
                    have HA : Hid (w.heap.size + 4 ≤ aa) := by have h1 := HR7.siz; have h2 := h1.2; show _ ≤ _; omega
                    clear hb7 hb8 hb9 haa HR7 hv7 HK6 HT6 HS6
                    gi_wp2
                    refine ⟨(HK8.out.trans (KeepsOthers.setCell _ _ _)).trans (KeepsOthers.setCell _ _ _), rfl, EE, p, aa, HX.out, HNE.out, ?_, ?_, ?_, ?_, ?_, HR8.out.siz.1, ?_⟩
                    · rw [heap_setCell_other _ ⟨w.heap.size + 1, 0, none⟩ w.heap.size _ (by show w.heap.size ≠ w.heap.size + 1; omega), heap_setCell_here HR8.out.r0]
                      rfl
                    · rw [heap_setCell_here (b := w.heap.size + 1) (e := 29) (cur := #[.nilIface]) ((heap_setCell_other _ ⟨w.heap.size, 0, none⟩ (w.heap.size + 1) _ (by show w.heap.size + 1 ≠ w.heap.size; omega)).trans HR8.out.r1)]
                      rfl
                    · exact (cell_set2 HA.out).trans q0
                    · exact (cell_set2 HA.out).trans q1
                    · exact (HR8.out.bel.setCell (Nat.le_refl _) _).setCell (by show w.heap.size ≤ w.heap.size + 1; omega) _
                    · simpa using HR8.out.siz.2
                exact AllReadyIn.nil
              exact AllReadyIn.nil
            exact AllReadyIn.nil
          exact AllReadyIn.nil
        refine AllReadyIn.cons rfl (fun K hK => ?_) ?_
        · go_simp
          gi_wp2_with (refine ⟨trivial, ?_⟩; gi_at_call 19; refine (CallsIn.inRound l (callsIn_wide.2 (HIT.out _ (by first | exact (Below.refl _ _).drew | exact Below.refl _ _)))).mono ?_; rintro e w4 ⟨rfl, hb4⟩; have HB4 : Hid (Below w3.heap.size w3 w4) := hb4; have HR4 : Hid (IpR w W0 t (.slice kx ls.length kc) ls w4) := HR3.out.below hb4; obtain ⟨p2, g2⟩ := cell1 HR4.out.bx; have p2a : (w4.alloc (.cells #[.int .i64 x.a, .int .i64 x.l, .int .i64 x.f, .int .i64 x.b, .int .i64 x.m] 39)).cell? ⟨w.heap.size + 2, 0, none⟩ = some (.slice kx ls.length kc) := (cell1 (HR4.out.below (below_alloc_ (Below.refl _ _) _)).bx).1; clear hb4)
          refine wpAnyIn_ready (rs := [0, 3]) (by kernel_rfl) (by simp) ?_
          refine AllReadyIn.cons rfl (fun K hK => ?_) ?_
          · go_simp
            refine hK _ _ ?_
            clear hK K
            refine wpAnyIn_ready (rs := [3]) (by kernel_rfl) (by simp) ?_
            refine AllReadyIn.cons rfl (fun K hK => ?_) ?_
            · go_simp
              refine hK _ _ ?_
              clear hK K
              refine wpAnyIn_ready (rs := [4]) (by kernel_rfl) (by simp) ?_
              refine AllReadyIn.cons rfl (fun K hK => ?_) ?_
              · refine stepIn_append_seg _ (by rfl) (.tmp 28) (.tmp 31) 22 (by rfl) 39 i0 _ 5 40 Tryd.underlying22 hi0 hz0 hz1 hz2 rfl (by decide) (.slice kx ls.length kc) ls.length (flt itC ls) (by rfl) (HR4.out.row.alloc _) ⟨w4.heap.size, 0, none⟩ 1 1 (itC x) (by rfl) rfl (news5 _ _ _ _ _ _ _) (itC_one x) (by decide) (by unfold maxLen; omega) (by omega) _ rfl ?_
                intro g1 off1 cap1 w5 hs5 hg5 ha5 hl5
                obtain ⟨d5, z5⟩ := HR4.out.mid (below_alloc_ (Below.refl _ _) _) hg5
                refine hK _ _ ?_
                clear hK K
                refine wpAnyIn_ready (rs := [5]) (by kernel_rfl) (by simp) ?_
                refine AllReadyIn.cons rfl (fun K hK => ?_) ?_
                · go_simp
                  refine hK _ _ ?_
                  clear hK K
                  refine wpAnyIn_done (by kernel_rfl) ?_ _
                  have HS6 : Hid (IpR w W0 t (.slice (some ⟨g1, off1, none⟩) (ls.length + 1) cap1) (ls ++ [x]) (w5.setCell ⟨w.heap.size + 2, 0, none⟩ (.slice (some ⟨g1, off1, none⟩) (ls.length + 1) cap1))) := HR4.out.step (below_alloc_ (Below.refl _ _) _) hg5 hs5 ha5
                  have HK6 : Hid (KeepsOthers W (w5.setCell ⟨w.heap.size + 2, 0, none⟩ (.slice (some ⟨g1, off1, none⟩) (ls.length + 1) cap1))) := (((HK3.out.trans (keeps_below HB4.out)).trans (KeepsOthers.alloc _ _)).trans (KeepsOthers.of_grownBy hg5 (fun j o e ho => by obtain ⟨cur, hc⟩ := HR4.out.row.ty e; rw [Below.heap_alloc _ _ _ (lt_of_block hc), hc] at ho; obtain rfl := Option.some.inj ho; rfl))).trans (KeepsOthers.setCell _ _ _)
                  have HT6 : Hid (KpT (w.heap.size + 3) W (w5.setCell ⟨w.heap.size + 2, 0, none⟩ (.slice (some ⟨g1, off1, none⟩) (ls.length + 1) cap1))) := ⟨HS6.out.tx.trans HR.out.tx.symm, (HS6.out.bel.block _ hg0).trans (HR.out.bel.block _ hg0).symm⟩
                  generalize w5.setCell ⟨w.heap.size + 2, 0, none⟩ (.slice (some ⟨g1, off1, none⟩) (ls.length + 1) cap1) = w6 at *
                  obtain ⟨c6, f6⟩ := cell1 HS6.out.bx
                  have HLC := HLI.out g1 off1 cap1 w6 HS6.out
                  have HX6 := hs5.2
                  have hcap : ls.length + 1 ≤ cap1 := by
                    rcases hs5.form with ⟨h, _⟩ | ⟨_, _, _, h, h9, _⟩
                    · simp at h
                    · simp only [Value.slice.injEq, Option.some.injEq, Addr.mk.injEq, and_true, true_and] at h; omega
                  clear hs5 hg5 ha5 hl5 d5 z5 HX6
                  by_cases hE : (listE (ls ++ [x])).1 = 0
                  · have HOK := HGO.out hE
                    have HLN : Hid (Calls Tryd.prog 10 #[.slice (some ⟨g1, off1, none⟩) (ls.length + 1) (ls.length + 1)] w6 fun e w' => e = .returned .nilIface ∧ Below w6.heap.size w6 w') := by
                      refine HLC.mono ?_
                      rintro e w' ⟨v, rfl, hv, hb⟩
                      rw [hE] at hv
                      obtain rfl := err_nil hv
                      exact ⟨rfl, hb⟩
                    clear HLC hE
                    gi_wp2_with (refine ⟨trivial, ?_⟩; gi_at_call 10; refine (CallsIn.inRound l (callsIn_wide.2 HLN.out)).mono ?_; rintro e w7 ⟨rfl, hb7⟩)
                    exact ⟨HK6.out.trans (keeps_below hb7), HT6.out.trans ⟨hb7.block _ (lt_of_block HS6.out.tx), hb7.block _ (Nat.lt_of_lt_of_le hg0 HS6.out.bel.size)⟩, _, _, HOK, HS6.out.below hb7⟩
                  · have HX : Hid (readL [] ((pre ++ [(⟨(p, ln), hln, hpl⟩ : LnT)]).map Subtype.val) = .error ((listE (ls ++ [x])).1, p)) := HER.out hE
                    have HNE : Hid ((listE (ls ++ [x])).1 ≠ 0) := hE
                    have HLN : Hid (Calls Tryd.prog 10 #[.slice (some ⟨g1, off1, none⟩) (ls.length + 1) (ls.length + 1)] w6 fun e w' => ∃ ty u, e = .returned (.iface ty u) ∧ ErrIs w' (.iface ty u) (listE (ls ++ [x])).1 (listE (ls ++ [x])).2 ∧ Below w6.heap.size w6 w') := by
                      refine HLC.mono ?_
                      rintro e w' ⟨v, rfl, hv, hb⟩
                      obtain ⟨ty, u, rfl⟩ := err_some hv hE
                      exact ⟨ty, u, rfl, hv, hb⟩
                    clear HLC hE
                    generalize (listE (ls ++ [x])).1 = EE at *
                    generalize (listE (ls ++ [x])).2 = EP at *
                    gi_wp2_with (refine ⟨trivial, ?_⟩; gi_at_call 10; refine (CallsIn.inRound l (callsIn_wide.2 HLN.out)).mono ?_; rintro e w7 ⟨ty, u, rfl, hv7, hb7⟩)
                    have HR7 := HS6.out.below hb7
                    refine ⟨trivial, ?_⟩
                    refine (CallsIn.inRound l (callsIn_wide.2 (placed_err p _ hv7 (HLW.out _ HR7.bel)))).mono ?_
                    rintro e w8 ⟨aa, rfl, haa, q0, q1, hb8⟩
                    have hb9 : Below w6.heap.size w6 w8 := hb7.trans (hb8.mono hb7.size)
                    have HR8 : Hid (IpR w W0 t (.slice (some ⟨g1, off1, none⟩) (ls.length + 1) cap1) (ls ++ [x]) w8) := HS6.out.below hb9
                    obtain ⟨c0, f0⟩ := cell1 HR8.out.r0
                    obtain ⟨c1, f1⟩ := cell1 HR8.out.r1
                    have HK8 : Hid (KeepsOthers W w8) := HK6.out.trans (keeps_below hb9)
                    have HA : Hid (w.heap.size + 4 ≤ aa) := by have h1 := HR7.siz; have h2 := h1.2; show _ ≤ _; omega
                    clear hb7 hb8 hb9 haa HR7 hv7 HK6 HT6 HS6
                    gi_wp2
                    refine ⟨(HK8.out.trans (KeepsOthers.setCell _ _ _)).trans (KeepsOthers.setCell _ _ _), rfl, EE, p, aa, HX.out, HNE.out, ?_, ?_, ?_, ?_, ?_, HR8.out.siz.1, ?_⟩
                    · rw [heap_setCell_other _ ⟨w.heap.size + 1, 0, none⟩ w.heap.size _ (by show w.heap.size ≠ w.heap.size + 1; omega), heap_setCell_here HR8.out.r0]
                      rfl
                    · rw [heap_setCell_here (b := w.heap.size + 1) (e := 29) (cur := #[.nilIface]) ((heap_setCell_other _ ⟨w.heap.size, 0, none⟩ (w.heap.size + 1) _ (by show w.heap.size + 1 ≠ w.heap.size; omega)).trans HR8.out.r1)]
                      rfl
                    · exact (cell_set2 HA.out).trans q0
                    · exact (cell_set2 HA.out).trans q1
                    · exact (HR8.out.bel.setCell (Nat.le_refl _) _).setCell (by show w.heap.size ≤ w.heap.size + 1; omega) _
                    · simpa using HR8.out.siz.2
                exact AllReadyIn.nil
              exact AllReadyIn.nil
            exact AllReadyIn.nil
          refine AllReadyIn.cons rfl (fun K hK => ?_) ?_
          · go_simp
            refine hK _ _ ?_
            clear hK K
            refine wpAnyIn_ready (rs := [0]) (by kernel_rfl) (by simp) ?_
            refine AllReadyIn.cons rfl (fun K hK => ?_) ?_
            · go_simp
              refine hK _ _ ?_
              clear hK K
              refine wpAnyIn_ready (rs := [4]) (by kernel_rfl) (by simp) ?_
              refine AllReadyIn.cons rfl (fun K hK => ?_) ?_
              · refine stepIn_append_seg _ (by rfl) (.tmp 28) (.tmp 31) 22 (by rfl) 39 i0 _ 5 40 Tryd.underlying22 hi0 hz0 hz1 hz2 rfl (by decide) (.slice kx ls.length kc) ls.length (flt itC ls) (by rfl) (HR4.out.row.alloc _) ⟨w4.heap.size, 0, none⟩ 1 1 (itC x) (by rfl) rfl (news5 _ _ _ _ _ _ _) (itC_one x) (by decide) (by unfold maxLen; omega) (by omega) _ rfl ?_
                intro g1 off1 cap1 w5 hs5 hg5 ha5 hl5
                obtain ⟨d5, z5⟩ := HR4.out.mid (below_alloc_ (Below.refl _ _) _) hg5
                refine hK _ _ ?_
                clear hK K
                refine wpAnyIn_ready (rs := [5]) (by kernel_rfl) (by simp) ?_
                refine AllReadyIn.cons rfl (fun K hK => ?_) ?_
                · go_simp
                  refine hK _ _ ?_
                  clear hK K
                  refine wpAnyIn_done (by kernel_rfl) ?_ _
                  have HS6 : Hid (IpR w W0 t (.slice (some ⟨g1, off1, none⟩) (ls.length + 1) cap1) (ls ++ [x]) (w5.setCell ⟨w.heap.size + 2, 0, none⟩ (.slice (some ⟨g1, off1, none⟩) (ls.length + 1) cap1))) := HR4.out.step (below_alloc_ (Below.refl _ _) _) hg5 hs5 ha5
                  have HK6 : Hid (KeepsOthers W (w5.setCell ⟨w.heap.size + 2, 0, none⟩ (.slice (some ⟨g1, off1, none⟩) (ls.length + 1) cap1))) := (((HK3.out.trans (keeps_below HB4.out)).trans (KeepsOthers.alloc _ _)).trans (KeepsOthers.of_grownBy hg5 (fun j o e ho => by obtain ⟨cur, hc⟩ := HR4.out.row.ty e; rw [Below.heap_alloc _ _ _ (lt_of_block hc), hc] at ho; obtain rfl := Option.some.inj ho; rfl))).trans (KeepsOthers.setCell _ _ _)
                  have HT6 : Hid (KpT (w.heap.size + 3) W (w5.setCell ⟨w.heap.size + 2, 0, none⟩ (.slice (some ⟨g1, off1, none⟩) (ls.length + 1) cap1))) := ⟨HS6.out.tx.trans HR.out.tx.symm, (HS6.out.bel.block _ hg0).trans (HR.out.bel.block _ hg0).symm⟩
                  generalize w5.setCell ⟨w.heap.size + 2, 0, none⟩ (.slice (some ⟨g1, off1, none⟩) (ls.length + 1) cap1) = w6 at *
                  obtain ⟨c6, f6⟩ := cell1 HS6.out.bx
                  have HLC := HLI.out g1 off1 cap1 w6 HS6.out
                  have HX6 := hs5.2
                  have hcap : ls.length + 1 ≤ cap1 := by
                    rcases hs5.form with ⟨h, _⟩ | ⟨_, _, _, h, h9, _⟩
                    · simp at h
                    · simp only [Value.slice.injEq, Option.some.injEq, Addr.mk.injEq, and_true, true_and] at h; omega
                  clear hs5 hg5 ha5 hl5 d5 z5 HX6
                  by_cases hE : (listE (ls ++ [x])).1 = 0
                  · have HOK := HGO.out hE
                    have HLN : Hid (Calls Tryd.prog 10 #[.slice (some ⟨g1, off1, none⟩) (ls.length + 1) (ls.length + 1)] w6 fun e w' => e = .returned .nilIface ∧ Below w6.heap.size w6 w') := by
                      refine HLC.mono ?_
                      rintro e w' ⟨v, rfl, hv, hb⟩
                      rw [hE] at hv
                      obtain rfl := err_nil hv
                      exact ⟨rfl, hb⟩
                    clear HLC hE
                    gi_wp2_with (refine ⟨trivial, ?_⟩; gi_at_call 10; refine (CallsIn.inRound l (callsIn_wide.2 HLN.out)).mono ?_; rintro e w7 ⟨rfl, hb7⟩)
                    exact ⟨HK6.out.trans (keeps_below hb7), HT6.out.trans ⟨hb7.block _ (lt_of_block HS6.out.tx), hb7.block _ (Nat.lt_of_lt_of_le hg0 HS6.out.bel.size)⟩, _, _, HOK, HS6.out.below hb7⟩
                  · have HX : Hid (readL [] ((pre ++ [(⟨(p, ln), hln, hpl⟩ : LnT)]).map Subtype.val) = .error ((listE (ls ++ [x])).1, p)) := HER.out hE
                    have HNE : Hid ((listE (ls ++ [x])).1 ≠ 0) := hE
                    have HLN : Hid (Calls Tryd.prog 10 #[.slice (some ⟨g1, off1, none⟩) (ls.length + 1) (ls.length + 1)] w6 fun e w' => ∃ ty u, e = .returned (.iface ty u) ∧ ErrIs w' (.iface ty u) (listE (ls ++ [x])).1 (listE (ls ++ [x])).2 ∧ Below w6.heap.size w6 w') := by
                      refine HLC.mono ?_
                      rintro e w' ⟨v, rfl, hv, hb⟩
                      obtain ⟨ty, u, rfl⟩ := err_some hv hE
                      exact ⟨ty, u, rfl, hv, hb⟩
                    clear HLC hE
                    generalize (listE (ls ++ [x])).1 = EE at *
                    generalize (listE (ls ++ [x])).2 = EP at *
                    gi_wp2_with (refine ⟨trivial, ?_⟩; gi_at_call 10; refine (CallsIn.inRound l (callsIn_wide.2 HLN.out)).mono ?_; rintro e w7 ⟨ty, u, rfl, hv7, hb7⟩)
                    have HR7 := HS6.out.below hb7
                    refine ⟨trivial, ?_⟩
                    refine (CallsIn.inRound l (callsIn_wide.2 (placed_err p _ hv7 (HLW.out _ HR7.bel)))).mono ?_
                    rintro e w8 ⟨aa, rfl, haa, q0, q1, hb8⟩
                    have hb9 : Below w6.heap.size w6 w8 := hb7.trans (hb8.mono hb7.size)
                    have HR8 : Hid (IpR w W0 t (.slice (some ⟨g1, off1, none⟩) (ls.length + 1) cap1) (ls ++ [x]) w8) := HS6.out.below hb9
                    obtain ⟨c0, f0⟩ := cell1 HR8.out.r0
                    obtain ⟨c1, f1⟩ := cell1 HR8.out.r1
                    have HK8 : Hid (KeepsOthers W w8) := HK6.out.trans (keeps_below hb9)
                    have HA : Hid (w.heap.size + 4 ≤ aa) := by have h1 := HR7.siz; have h2 := h1.2; show _ ≤ _; omega
                    clear hb7 hb8 hb9 haa HR7 hv7 HK6 HT6 HS6
                    gi_wp2
                    refine ⟨(HK8.out.trans (KeepsOthers.setCell _ _ _)).trans (KeepsOthers.setCell _ _ _), rfl, EE, p, aa, HX.out, HNE.out, ?_, ?_, ?_, ?_, ?_, HR8.out.siz.1, ?_⟩
                    · rw [heap_setCell_other _ ⟨w.heap.size + 1, 0, none⟩ w.heap.size _ (by show w.heap.size ≠ w.heap.size + 1; omega), heap_setCell_here HR8.out.r0]
                      rfl
                    · rw [heap_setCell_here (b := w.heap.size + 1) (e := 29) (cur := #[.nilIface]) ((heap_setCell_other _ ⟨w.heap.size, 0, none⟩ (w.heap.size + 1) _ (by show w.heap.size + 1 ≠ w.heap.size; omega)).trans HR8.out.r1)]
                      rfl
                    · exact (cell_set2 HA.out).trans q0
                    · exact (cell_set2 HA.out).trans q1
                    · exact (HR8.out.bel.setCell (Nat.le_refl _) _).setCell (by show w.heap.size ≤ w.heap.size + 1; omega) _
                    · simpa using HR8.out.siz.2
                exact AllReadyIn.nil
              exact AllReadyIn.nil
            exact AllReadyIn.nil
          exact AllReadyIn.nil
        exact AllReadyIn.nil
      exact AllReadyIn.nil
      -- END
  case done =>
    rintro D xs W hD hS ⟨lv, ls, hrd, hR⟩ hK
    obtain ⟨c0, f0⟩ := cell1 hR.r0
    obtain ⟨c1, f1⟩ := cell1 hR.r1
    obtain ⟨c2, f2⟩ := cell1 hR.bx
    have hlv : ∃ x c, lv = .slice x ls.length c := by
      rcases hR.row.form with ⟨h, h0, _⟩ | ⟨_, _, _, h, _⟩
      · exact ⟨_, _, by rw [h, h0]⟩
      · exact ⟨_, _, h⟩
    obtain ⟨kx, kc, rfl⟩ := hlv
    gi_wp2
    have hKD := ((KeepsOthers.setCell W ⟨w.heap.size, 0, none⟩ (.slice kx ls.length kc)).trans (KeepsOthers.setCell _ ⟨w.heap.size + 1, 0, none⟩ .nilIface)).same D _ hK rfl
    have HPI : Hid (parseI s.data.toList = .ok ls) := by show _ = _; rw [htt]; unfold parseI; rw [← hS]; exact hrd
    have hz := hR.siz
    have g0 : ((W.setCell ⟨w.heap.size, 0, none⟩ (.slice kx ls.length kc)).setCell ⟨w.heap.size + 1, 0, none⟩ .nilIface).heap[w.heap.size]? = some (.cells #[.slice kx ls.length kc] 22 (0, 0)) := by
      rw [heap_setCell_other _ ⟨w.heap.size + 1, 0, none⟩ w.heap.size _ (by show w.heap.size ≠ w.heap.size + 1; omega), heap_setCell_here hR.r0]
      rfl
    have g1 : ((W.setCell ⟨w.heap.size, 0, none⟩ (.slice kx ls.length kc)).setCell ⟨w.heap.size + 1, 0, none⟩ .nilIface).heap[w.heap.size + 1]? = some (.cells #[.nilIface] 29 (0, 0)) := by
      rw [heap_setCell_here (b := w.heap.size + 1) (e := 29) (cur := #[.nilIface]) ((heap_setCell_other _ ⟨w.heap.size, 0, none⟩ (w.heap.size + 1) _ (by show w.heap.size + 1 ≠ w.heap.size; omega)).trans hR.r1)]
      rfl
    have gs : Seg ((W.setCell ⟨w.heap.size, 0, none⟩ (.slice kx ls.length kc)).setCell ⟨w.heap.size + 1, 0, none⟩ .nilIface) 39 5 (.slice kx ls.length kc) ls.length (flt itC ls) := (hR.row.setCell (p := ⟨w.heap.size, 0, none⟩) (fun e => by have h9 : W0.heap.size ≤ w.heap.size := hR.own _ e; omega) _).setCell (p := ⟨w.heap.size + 1, 0, none⟩) (fun e => by have h9 : W0.heap.size ≤ w.heap.size + 1 := hR.own _ e; omega) _
    have gb : Below w.heap.size w ((W.setCell ⟨w.heap.size, 0, none⟩ (.slice kx ls.length kc)).setCell ⟨w.heap.size + 1, 0, none⟩ .nilIface) := (hR.bel.setCell (Nat.le_refl _) _).setCell (by show w.heap.size ≤ w.heap.size + 1; omega) _
    generalize (W.setCell ⟨w.heap.size, 0, none⟩ (.slice kx ls.length kc)).setCell ⟨w.heap.size + 1, 0, none⟩ .nilIface = WE at *
    refine ⟨by simp, .inl ⟨_, _, rfl, run_takeDeferred hKD, ?_⟩⟩
    have hp : ∀ k, k ≠ D → (WE.putObj D (.deferred none)).heap[k]? = WE.heap[k]? := fun k hk => World.putObj_heap_other hk
    obtain ⟨y0, -⟩ := cell1 ((hp w.heap.size (by omega)).trans g0)
    obtain ⟨y1, -⟩ := cell1 ((hp (w.heap.size + 1) (by omega)).trans g1)
    have gs2 : Seg (WE.putObj D (.deferred none)) 39 5 (.slice kx ls.length kc) ls.length (flt itC ls) := gs.kept fun b hb => hp b (by rintro rfl; obtain ⟨cur, hc⟩ := gs.ty hb; rw [hKD] at hc; cases hc)
    have gb2 : Below w.heap.size w (WE.putObj D (.deferred none)) := gb.trans (belowK_b (w := w) (Nat.le_refl _) WE D _ _ (by omega) hKD rfl rfl)
    generalize WE.putObj D (.deferred none) = WF at *
    refine ⟨.tuple #[.slice kx ls.length kc, .nilIface], ?_, gb2, Or.inl ⟨ls, _, HPI.out, rfl, gs2, fun j hj => by have := hR.own j hj; omega⟩⟩
    rw [results_cell_cell rfl]
    go_simp
    try rfl
  case stop =>
    rintro D c pre W hD hSp hX hK
    obtain ⟨rfl, ec, ep, a, h1, h2, h3, h4, h5, h6, h7, h8, h9⟩ := hX
    gi_wp2
    have HPI : Hid (parseI s.data.toList = .error (ec, ep)) := by show _ = _; rw [htt]; unfold parseI; obtain ⟨r, hr⟩ := hSp; rw [← hr]; exact readL_err _ _ _ _ h1
    refine ⟨by simp, .inl ⟨_, _, rfl, run_takeDeferred hK, ?_⟩⟩
    have hp : ∀ k, k ≠ D → (W.putObj D (.deferred none)).heap[k]? = W.heap[k]? := fun k hk => World.putObj_heap_other hk
    obtain ⟨y0, -⟩ := cell1 ((hp w.heap.size (by omega)).trans h3)
    obtain ⟨y1, -⟩ := cell1 ((hp (w.heap.size + 1) (by omega)).trans h4)
    have y2 := cell_kept h5 (grownBy_putObj' W D (.deferred none)) (fun r e => by cases e; exact ⟨_, hK, rfl⟩)
    have y3 := cell_kept h6 (grownBy_putObj' W D (.deferred none)) (fun r e => by cases e; exact ⟨_, hK, rfl⟩)
    have gb2 : Below w.heap.size w (W.putObj D (.deferred none)) := h7.trans (belowK_b (w := w) (Nat.le_refl _) W D _ _ (by omega) hK rfl rfl)
    generalize W.putObj D (.deferred none) = WF at *
    refine ⟨.tuple #[.slice none 0 0, .iface 75 (.pointer (some ⟨a, 0, none⟩))], ?_, gb2, Or.inr ⟨ec, ep, a, HPI.out, h2, rfl, y2, y3⟩⟩
    rw [results_cell_cell rfl]
    go_simp
    try rfl
end Go.Proofs.YtcdcplocpdmjaaaDoor
