/-
  item.readRow: a line's five numbers, or that it has not five. Conditions: what strconv lays is laid; the line has 20000 bytes at most.
-/
import Derived.Test.YtcdcplocpdmjaaaDoorIp1
namespace Go.Proofs.YtcdcplocpdmjaaaDoor
open Go.RowKit Go.Extern.Stop Go.Stop Go.Extern

/-- A row's value. -/
def rowV (x : It) : Value := .agg #[.int .i64 x.a, .int .i64 x.l, .int .i64 x.f, .int .i64 x.b, .int .i64 x.m]
theorem results_cell_tmp {fn : Func} {p u : Tmp} {ty : TypeId} (h : fn.results = #[.cell p ty, .tmp u]) (tmps : Array Value) (P : Program) (w : World) :
    (results fn tmps).run P w = ((asAddr (tmps.getD p undef)).run P w).andThen fun a w₁ => ((loadVar ty a).run P w₁).andThen fun v w₂ => .ok (.tuple #[v, tmps.getD u undef]) w₂ := by
  simp only [results, h]
  simp [Sem.run_bind, Result.andThen]
theorem fiveL_len {l : List (Option Int)} (h : l.length ≠ 5) : fiveL l = none := by
  unfold fiveL
  split
  · simp at h
  · rfl
theorem cells5f {w : World} {b : Nat} {v0 v1 v2 v3 v4 : Value} {T : TypeId} (hb : w.heap[b]? = some (.cells #[v0, v1, v2, v3, v4] T (0, 0))) : (w.cell? ⟨b, 0, none⟩ = some v0 ∧ w.cell? ⟨b, 1, none⟩ = some v1 ∧ w.cell? ⟨b, 2, none⟩ = some v2 ∧ w.cell? ⟨b, 3, none⟩ = some v3 ∧ w.cell? ⟨b, 4, none⟩ = some v4) ∧ w.frozen? ⟨b, 0, none⟩ = false ∧ w.frozen? ⟨b, 1, none⟩ = false ∧ w.frozen? ⟨b, 2, none⟩ = false ∧ w.frozen? ⟨b, 3, none⟩ = false ∧ w.frozen? ⟨b, 4, none⟩ = false := by
  refine ⟨⟨?_, ?_, ?_, ?_, ?_⟩, ?_, ?_, ?_, ?_, ?_⟩
  all_goals simp [World.cell?, World.frozen?, hb]
theorem five_list {α : Type} {l : List α} (h : l.length = 5) : ∃ a b c d e, l = [a, b, c, d, e] := by
  match l, h with
  | [a, b, c, d, e], _ => exact ⟨a, b, c, d, e, rfl⟩
set_option maxRecDepth 100000 in
set_option maxHeartbeats 4000000 in
theorem readRow_any (s : ByteArray) (w : World) (hs : s.size ≤ 20000) (hG : GlobM w) :
    Calls Tryd.prog 17 #[.string s] w fun e w' => (∃ v, e = .returned (.tuple #[v, .bool (rowL s.data.toList).isSome]) ∧ (∀ x, rowL s.data.toList = some x → v = rowV x) ∧ ∃ a b c d f, v = .agg #[.int .i64 a, .int .i64 b, .int .i64 c, .int .i64 d, .int .i64 f]) ∧ Below w.heap.size w w' := by
  have hsz : s.data.toList.length = s.size := Array.length_toList
  have HWD : Hid (∀ w1, Below w.heap.size w w1 → Calls Tryd.prog 13 #[.string s, .string ⟨#[32]⟩] w1 fun e w' => e = .returned (.slice (some ⟨w1.heap.size, 0, none⟩) (cutL 32 s.data.toList).length (cutL 32 s.data.toList).length) ∧ (∀ (j : Nat) x, (cutL 32 s.data.toList)[j]? = some x → w'.cell? ⟨w1.heap.size, 0 + j, none⟩ = some (.string ⟨x.toArray⟩)) ∧ Below w1.heap.size w1 w') := fun w1 h => words_any s 32 w1 hs (hG.below h)
  have HNU : Hid (∀ x ∈ cutL 32 s.data.toList, ∀ w1, Below w.heap.size w w1 → Calls Tryd.prog 32 #[.string ⟨x.toArray⟩] w1 fun e w' => e = .returned (.tuple #[.int .i64 ((numL x).getD 0), .bool (numL x).isSome]) ∧ Below w1.heap.size w1 w') := by
    intro x hx w1 h
    have hl := cutL_len 32 s.data.toList x hx
    exact number_any' ⟨x.toArray⟩ w1 (by show x.toArray.size ≤ 20000; rw [List.size_toArray]; omega) (hG.below h).1
  have hmany := (cutL_many 32 s.data.toList).1
  have HRL : Hid (rowL s.data.toList = fiveL ((cutL 32 s.data.toList).map numL)) := rfl
  generalize cutL 32 s.data.toList = xs at *
  generalize rowL s.data.toList = R at *
  clear hG
  have kz : ∀ W : World, (W.alloc (.cells #[.int .i64 0, .int .i64 0, .int .i64 0, .int .i64 0, .int .i64 0] 51)).heap[W.heap.size]? = some (.cells #[.int .i64 0, .int .i64 0, .int .i64 0, .int .i64 0, .int .i64 0] 51 (0, 0)) := fun W => new_block _ _
  by_cases h5 : xs.length = 5
  · obtain ⟨x0, x1, x2, x3, x4, rfl⟩ := five_list h5
    have HN0 := HNU.out x0 (by simp)
    have HN1 := HNU.out x1 (by simp)
    have HN2 := HNU.out x2 (by simp)
    have HN3 := HNU.out x3 (by simp)
    have HN4 := HNU.out x4 (by simp)
    have HNN : Hid (∀ i, i < 5 → ∃ (x : List UInt8) (n : Option Int), [x0, x1, x2, x3, x4][i]? = some x ∧ [numL x0, numL x1, numL x2, numL x3, numL x4][i]? = some n ∧ ∀ w1, Below w.heap.size w w1 → Calls Tryd.prog 32 #[.string ⟨x.toArray⟩] w1 fun e w' => e = .returned (.tuple #[.int .i64 (n.getD 0), .bool n.isSome]) ∧ Below w1.heap.size w1 w') := by
      intro i hi
      match i, hi with
      | 0, _ => exact ⟨x0, numL x0, rfl, rfl, HN0⟩
      | 1, _ => exact ⟨x1, numL x1, rfl, rfl, HN1⟩
      | 2, _ => exact ⟨x2, numL x2, rfl, rfl, HN2⟩
      | 3, _ => exact ⟨x3, numL x3, rfl, rfl, HN3⟩
      | 4, _ => exact ⟨x4, numL x4, rfl, rfl, HN4⟩
    have HRF : Hid (R = fiveL [numL x0, numL x1, numL x2, numL x3, numL x4]) := HRL.out
    clear HN0 HN1 HN2 HN3 HN4 HNU HRL h5 hmany
    generalize numL x0 = m0 at *
    generalize numL x1 = m1 at *
    generalize numL x2 = m2 at *
    generalize numL x3 = m3 at *
    generalize numL x4 = m4 at *
    have HNO : Hid (∀ i : Nat, [m0, m1, m2, m3, m4][i]? = some none → R = none) := by
      intro i hi
      rw [HRF.out]
      match i with
      | 0 => obtain rfl := Option.some.inj hi; rfl
      | 1 => obtain rfl := Option.some.inj hi; cases m0 <;> rfl
      | 2 => obtain rfl := Option.some.inj hi; cases m0 <;> cases m1 <;> rfl
      | 3 => obtain rfl := Option.some.inj hi; cases m0 <;> cases m1 <;> cases m2 <;> rfl
      | 4 => obtain rfl := Option.some.inj hi; cases m0 <;> cases m1 <;> cases m2 <;> cases m3 <;> rfl
      | i + 5 => simp at hi
    have HYES : Hid ((∀ i : Nat, i < 5 → ([m0, m1, m2, m3, m4].getD i none).isSome = true) → R = some ⟨m0.getD 0, m1.getD 0, m2.getD 0, m3.getD 0, m4.getD 0⟩) := by
      intro h
      have a0 := h 0 (by decide); have a1 := h 1 (by decide); have a2 := h 2 (by decide); have a3 := h 3 (by decide); have a4 := h 4 (by decide)
      rw [HRF.out]
      cases m0 <;> cases m1 <;> cases m2 <;> cases m3 <;> cases m4 <;> simp_all [fiveL]
    have hbA : Below w.heap.size w ((w.alloc (.cells #[.int .i64 0, .int .i64 0, .int .i64 0, .int .i64 0, .int .i64 0] 51)).alloc (.cells #[.int .i64 0, .int .i64 0, .int .i64 0, .int .i64 0, .int .i64 0] 51)) := below_alloc_ (below_alloc_ (Below.refl _ _) _) _
    have k0 : ((w.alloc (.cells #[.int .i64 0, .int .i64 0, .int .i64 0, .int .i64 0, .int .i64 0] 51)).alloc (.cells #[.int .i64 0, .int .i64 0, .int .i64 0, .int .i64 0, .int .i64 0] 51)).heap[w.heap.size]? = some (.cells #[.int .i64 0, .int .i64 0, .int .i64 0, .int .i64 0, .int .i64 0] 51 (0, 0)) := (Below.heap_alloc _ _ _ (by simp)).trans (kz w)
    have k1 : ((w.alloc (.cells #[.int .i64 0, .int .i64 0, .int .i64 0, .int .i64 0, .int .i64 0] 51)).alloc (.cells #[.int .i64 0, .int .i64 0, .int .i64 0, .int .i64 0, .int .i64 0] 51)).heap[w.heap.size + 1]? = some (.cells #[.int .i64 0, .int .i64 0, .int .i64 0, .int .i64 0, .int .i64 0] 51 (0, 0)) := new_block_ (by simp)
    have hzz : ((w.alloc (.cells #[.int .i64 0, .int .i64 0, .int .i64 0, .int .i64 0, .int .i64 0] 51)).alloc (.cells #[.int .i64 0, .int .i64 0, .int .i64 0, .int .i64 0, .int .i64 0] 51)).heap.size = w.heap.size + 2 := by simp
    have HC := HWD.out _ hbA
    rw [hzz] at HC
    go_enter Tryd.func17, Tryd.ntmps17
    go_wp2_with fail
    refine HC.mono ?_
    rintro e w2 ⟨rfl, hw, hb2⟩
    have HST : Hid (RwS w (w.heap.size + 2) [x0, x1, x2, x3, x4] (m0.getD 0) (m1.getD 0) (m2.getD 0) (m3.getD 0) (m4.getD 0) 0 w2) := ⟨(hb2.block _ (by omega)).trans k1, (hb2.block _ (by omega)).trans k0, hw, by omega, hbA.trans (hb2.mono (by omega))⟩
    clear hw hb2 k0 k1 hbA HC hzz kz HWD
    simp only [List.length_cons, List.length_nil]
    go_wp2_with fail
    go_loopg [18, 6, 7, 8, 9] 5 (fun g v18 _ _ _ _ wx => ∃ i : Nat, i + g = 5 ∧ v18 = .int .i64 i ∧ Hid (RwS w (w.heap.size + 2) [x0, x1, x2, x3, x4] (m0.getD 0) (m1.getD 0) (m2.getD 0) (m3.getD 0) (m4.getD 0) i wx) ∧ Hid (∀ j, j < i → ([m0, m1, m2, m3, m4].getD j none).isSome = true))
    case atStart => exact ⟨0, by omega, rfl, HST, fun j hj => by omega⟩
    case round =>
      obtain ⟨i, hig, rfl, HRS, HAL⟩ := hrel
      by_cases hi : i < 5
      · obtain ⟨x, n, hx, hn, hc⟩ := HNN.out i hi
        have q0 : wr.cell? ⟨w.heap.size + 2, i, none⟩ = some (.string ⟨x.toArray⟩) := by have h := HRS.out.wds i x hx; rwa [Nat.zero_add] at h
        have HC := hc wr HRS.out.bel
        have hi1 : (i : Int) < 5 := by omega
        clear hx hc
        cases n with
        | none =>
          have HN := HNO.out i hn
          go_wp2_with fail
          refine HC.mono ?_
          rintro e w3 ⟨rfl, hb3⟩
          have HR3 := HRS.out.below hb3
          obtain ⟨⟨c0, c1, c2, c3, c4⟩, f0, f1, f2, f3, f4⟩ := cells5f HR3.res
          have hlt := lt_of_block HR3.res
          have HB3 : Hid (Below w.heap.size w w3) := HR3.bel
          clear hb3 HC q0
          go_wp2
          (try simp only [Exit.inBlock, Exit.then])
          refine bodyPost_ret (v := .tuple #[.agg #[.int .i64 0, .int .i64 0, .int .i64 0, .int .i64 0, .int .i64 0], .bool false]) ?_ rfl ⟨⟨_, (by rw [HN]; rfl), (fun x hx => (by rw [HN] at hx; cases hx)), _, _, _, _, _, rfl⟩, ?_⟩
          · rw [results_cell_tmp rfl]
            go_simp
            try rfl
          · exact (((((HB3.out.setCell (Nat.le_refl _) _).setCell (Nat.le_refl _) _).setCell (Nat.le_refl _) _).setCell (Nat.le_refl _) _).setCell (Nat.le_refl _) _)
        | some n =>
          have HAN : Hid (∀ j, j < i + 1 → ([m0, m1, m2, m3, m4].getD j none).isSome = true) := by
            intro j hj
            rcases (by omega : j < i ∨ j = i) with h | rfl
            · exact HAL.out j h
            · rw [List.getD_eq_getElem?_getD, hn]; rfl
          have HVN : Hid (n = [m0.getD 0, m1.getD 0, m2.getD 0, m3.getD 0, m4.getD 0].getD i 0) := by
            show _ = _
            match i, hi, hn with
            | 0, _, hn => obtain rfl := Option.some.inj hn; rfl
            | 1, _, hn => obtain rfl := Option.some.inj hn; rfl
            | 2, _, hn => obtain rfl := Option.some.inj hn; rfl
            | 3, _, hn => obtain rfl := Option.some.inj hn; rfl
            | 4, _, hn => obtain rfl := Option.some.inj hn; rfl
          clear hn
          go_wp2_with fail
          refine HC.mono ?_
          rintro e w3 ⟨rfl, hb3⟩
          have HR3 : Hid (RwS w (w.heap.size + 2) [x0, x1, x2, x3, x4] (m0.getD 0) (m1.getD 0) (m2.getD 0) (m3.getD 0) (m4.getD 0) i w3) := HRS.out.below hb3
          have g0 := HR3.out.cells.1 i hi
          have g1 := HR3.out.cells.2 i hi
          obtain ⟨u, hu⟩ := Option.isSome_iff_exists.1 g1
          have HRN := HR3.out.set hi n HVN.out
          clear hb3 HC q0 g1
          go_wp2
          go_roundg (gk - 1)
          case measure => omega
          case rel => exact ⟨i + 1, by omega, by go_num, HRN, HAN⟩
      · obtain rfl : i = 5 := by omega
        have HR := HYES.out HAL.out
        obtain ⟨⟨c0, c1, c2, c3, c4⟩, f0, f1, f2, f3, f4⟩ := cells5f HRS.out.res
        obtain ⟨⟨e0, e1, e2, e3, e4⟩, -⟩ := cells5f HRS.out.arr
        simp only [show (0 : Nat) < 5 from by decide, show (1 : Nat) < 5 from by decide, show (2 : Nat) < 5 from by decide, show (3 : Nat) < 5 from by decide, show (4 : Nat) < 5 from by decide, if_true] at e0 e1 e2 e3 e4
        have hlt := lt_of_block HRS.out.res
        go_wp2
        (try simp only [Exit.inBlock, Exit.then])
        refine bodyPost_ret (v := .tuple #[.agg #[.int .i64 (m0.getD 0), .int .i64 (m1.getD 0), .int .i64 (m2.getD 0), .int .i64 (m3.getD 0), .int .i64 (m4.getD 0)], .bool true]) ?_ rfl ⟨⟨_, (by rw [HR]; rfl), (fun x hx => (by rw [HR] at hx; obtain rfl := Option.some.inj hx; rfl)), _, _, _, _, _, rfl⟩, ?_⟩
        · rw [results_cell_tmp rfl]
          go_simp
          try rfl
        · exact (((((HRS.out.bel.setCell (Nat.le_refl _) _).setCell (Nat.le_refl _) _).setCell (Nat.le_refl _) _).setCell (Nat.le_refl _) _).setCell (Nat.le_refl _) _)
  · have HN : Hid (R = none) := by show _ = _; rw [HRL.out]; exact fiveL_len (by rw [List.length_map]; exact h5)
    have d1 : ((xs.length : Int) == 5) = false := by simp; omega
    have d2 : ((xs.length : Int) != 5) = true := by simp; omega
    have hbA : Below w.heap.size w ((w.alloc (.cells #[.int .i64 0, .int .i64 0, .int .i64 0, .int .i64 0, .int .i64 0] 51)).alloc (.cells #[.int .i64 0, .int .i64 0, .int .i64 0, .int .i64 0, .int .i64 0] 51)) := below_alloc_ (below_alloc_ (Below.refl _ _) _) _
    have k0 : ((w.alloc (.cells #[.int .i64 0, .int .i64 0, .int .i64 0, .int .i64 0, .int .i64 0] 51)).alloc (.cells #[.int .i64 0, .int .i64 0, .int .i64 0, .int .i64 0, .int .i64 0] 51)).heap[w.heap.size]? = some (.cells #[.int .i64 0, .int .i64 0, .int .i64 0, .int .i64 0, .int .i64 0] 51 (0, 0)) := (Below.heap_alloc _ _ _ (by simp)).trans (kz w)
    have HC := HWD.out _ hbA
    go_enter Tryd.func17, Tryd.ntmps17
    go_wp2_with fail
    refine HC.mono ?_
    rintro e w2 ⟨rfl, hw, hb2⟩
    have k2 := (hb2.block w.heap.size (by simp; omega)).trans k0
    obtain ⟨⟨c0, c1, c2, c3, c4⟩, f0, f1, f2, f3, f4⟩ := cells5f k2
    have hlt := lt_of_block k2
    have HB2 : Hid (Below w.heap.size w w2) := hbA.trans (hb2.mono hbA.size)
    clear hw hb2 k0 k2 hbA HC kz HWD
    go_wp2
    (try simp only [Exit.inBlock, Exit.then])
    refine bodyPost_ret (v := .tuple #[.agg #[.int .i64 0, .int .i64 0, .int .i64 0, .int .i64 0, .int .i64 0], .bool false]) ?_ rfl ⟨⟨_, (by rw [HN.out]; rfl), (fun x hx => (by rw [HN.out] at hx; cases hx)), _, _, _, _, _, rfl⟩, ?_⟩
    · rw [results_cell_tmp rfl]
      go_simp
      try rfl
    · exact (((((HB2.out.setCell (Nat.le_refl _) _).setCell (Nat.le_refl _) _).setCell (Nat.le_refl _) _).setCell (Nat.le_refl _) _).setCell (Nat.le_refl _) _)
end Go.Proofs.YtcdcplocpdmjaaaDoor
