/-
  LinkKeeps walked whole: it returns true for whatever text, rate, packets and time; nothing that was there before is otherwise. Conditions: what errors and strconv lay is laid; the packets lie in memory.
-/
import Derived.Test.YtfakjedolecdcaaGreatDoorU13
import Derived.Test.YtfakjedolecdcaaGreatDoorU37
import Derived.Test.YtfakjedolecdcaaGreatDoorU43
import Derived.Test.YtfakjedolecdcaaGreatDoorU14
import Derived.Deep.RegionHeld3
namespace Go.Proofs.YtfakjedolecdcaaGreatDoor
open Go.RowKit Go.Extern.Stop Go.Stop Go.Extern

/-- No queue is told to hold back what it has lost. -/
def NoShape (s : ByteArray) : Prop := ∀ j, j + 5 ≤ s.size → ¬ (s.extract j (j + 5)).toList = shapeB
set_option maxRecDepth 20000 in
theorem linkKeeps_long (s : ByteArray) (n t : Int) (x : Option Addr) (cap N : Nat) (u : Int) (w : World) (hs : s.size ≤ maxLen) (hm : N ≤ maxLen) (h : ¬ (s.size ≤ 400 ∧ N ≤ 60)) :
    Calls Tryz.prog 4 #[.string s, .agg #[.int .i64 n, .int .i64 t], .slice x N cap, .int .i64 u] w fun e w' => e = .returned (.bool true) ∧ Below w.heap.size w w' := by
  unfold maxLen at hs hm
  by_cases h1 : s.size ≤ 400
  · have a1 : decide ((400 : Int) < (s.size : Int)) = false := by simp; omega
    have a2 : decide ((60 : Int) < (N : Int)) = true := by simp; omega
    clear h h1
    go_enter Tryz.func4, Tryz.ntmps4
    go_wp2
    go_ret
    exact ⟨rfl, below_alloc_ (below_alloc_ (below_alloc_ (Below.refl _ _) _) _) _⟩
  · have a1 : decide ((400 : Int) < (s.size : Int)) = true := by simp; omega
    clear h h1
    go_enter Tryz.func4, Tryz.ntmps4
    go_wp2
    go_ret
    exact ⟨rfl, below_alloc_ (below_alloc_ (below_alloc_ (Below.refl _ _) _) _) _⟩
theorem ok_a0 {items : List It} (h : okL items) {k : Nat} {a : Int} (ha : (items.getD k it0).a = a) : 0 ≤ a := by
  rw [List.getD_eq_getElem?_getD] at ha
  cases hx : items[k]? with
  | none =>
    rw [hx] at ha
    have ha' : (0 : Int) = a := ha
    omega
  | some y =>
    rw [hx] at ha
    have h1 := h.all.1 y (List.mem_of_getElem? hx)
    simp only [It.ok, Bool.and_eq_true, wth_iff] at h1
    have ha' : y.a = a := ha
    have := h1.1.1.1.1.1
    omega
set_option maxRecDepth 100000 in
set_option maxHeartbeats 4000000 in
theorem linkKeeps_short (s : ByteArray) (n t : Int) (x : Option Addr) (cap : Nat) (items : List It) (u : Int) (w : World) (hG : Glob w) (hL : Laid w) (hit : ItemsAt w x items) (h4 : s.size ≤ 400) (hm : items.length ≤ 60) :
    Calls Tryz.prog 4 #[.string s, .agg #[.int .i64 n, .int .i64 t], .slice x items.length cap, .int .i64 u] w fun e w' => e = .returned (.bool true) ∧ Below w.heap.size w w' := by
  have HBT : Hid (∀ w1, Calls Tryz.prog 6 #[.string s] w1 fun e w' => (e = .returned (.bool true) ∨ e = .returned (.bool false) ∧ ∀ j, j + 6 ≤ s.size → ¬ (s.extract j (j + 6)).toList = roundsB) ∧ Below w1.heap.size w1 w') := fun w1 => busy_text s w1 (by omega)
  have HRN : Hid (∀ w1, Below w.heap.size w w1 → (∀ j, j + 6 ≤ s.size → ¬ (s.extract j (j + 6)).toList = roundsB) → Calls Tryz.prog 11 #[.string s, .agg #[.int .i64 n, .int .i64 t], .slice x items.length cap, .int .i64 u] w1 fun e w' => RunK (NoShape s) items n t u w1 w' e) := fun w1 hb hno =>
    runK_any s n t x cap items u w1 (fun w2 h2 => parse_all s w2 (fn := fun _ => 0) (by omega) (by omega) (fun _ => ⟨rfl, rfl⟩) (fun w' h' => ⟨hG.below ((hb.trans (h2.mono hb.size)).trans (h'.mono (hb.trans (h2.mono hb.size)).size)), hL.below ((hb.trans (h2.mono hb.size)).trans (h'.mono (hb.trans (h2.mono hb.size)).size)), Or.inl rfl⟩) (lsOk_of (by omega) hno (fun h => h))) (hL.below hb) (hit.below hb) hm
  have HLT : Hid (∀ w1, Below w.heap.size w w1 → Calls Tryz.prog 12 #[] w1 fun e w' => e = .returned (.bool true) ∧ Below w1.heap.size w1 w') := fun w1 h1 => linked_true w1 (hL.below h1)
  have HPT : Hid (∀ w1, Below w.heap.size w w1 → Calls Tryz.prog 8 #[] w1 fun e w' => e = .returned (.bool true) ∧ Below w1.heap.size w1 w') := fun w1 h1 => planted_true w1 (hG.below h1)
  have HIT : Hid (ItemsAt w x items) := hit
  obtain ⟨N, hN⟩ : ∃ N, items.length = N := ⟨_, rfl⟩
  have HN : Hid (items.length = N) := hN
  rw [hN] at hm HRN ⊢
  have a1 : decide ((400 : Int) < (s.size : Int)) = false := by simp; omega
  have a2 : decide ((60 : Int) < (N : Int)) = false := by simp; omega
  clear hG hL hit hN
  go_enter Tryz.func4, Tryz.ntmps4
  go_wp2_with fail
  have HB0 : Hid (Below w.heap.size w (((w.alloc (.cells #[.int .i64 n, .int .i64 t] 37)).alloc (.cells #[.slice x N cap] 38)).alloc (.cells #[.int .i64 u] 3))) := below_alloc_ (below_alloc_ (below_alloc_ (Below.refl _ _) _) _) _
  have HX5 : Hid ((((w.alloc (.cells #[.int .i64 n, .int .i64 t] 37)).alloc (.cells #[.slice x N cap] 38)).alloc (.cells #[.int .i64 u] 3)).heap[w.heap.size]? = some (.cells #[.int .i64 n, .int .i64 t] 37 (0, 0))) := by
    show _ = _
    rw [Below.heap_alloc _ _ _ (by simp; omega), Below.heap_alloc _ _ _ (by simp)]
    exact new_block _ _
  have HX6 : Hid ((((w.alloc (.cells #[.int .i64 n, .int .i64 t] 37)).alloc (.cells #[.slice x N cap] 38)).alloc (.cells #[.int .i64 u] 3)).heap[w.heap.size + 1]? = some (.cells #[.slice x N cap] 38 (0, 0))) := by
    show _ = _
    rw [Below.heap_alloc _ _ _ (by simp)]
    exact new_block_ (by simp)
  have HX7 : Hid ((((w.alloc (.cells #[.int .i64 n, .int .i64 t] 37)).alloc (.cells #[.slice x N cap] 38)).alloc (.cells #[.int .i64 u] 3)).heap[w.heap.size + 1 + 1]? = some (.cells #[.int .i64 u] 3 (0, 0))) := new_block_ (by simp)
  have HS0 : Hid ((((w.alloc (.cells #[.int .i64 n, .int .i64 t] 37)).alloc (.cells #[.slice x N cap] 38)).alloc (.cells #[.int .i64 u] 3)).heap.size = w.heap.size + 3) := by show _ = _; simp
  generalize ((w.alloc (.cells #[.int .i64 n, .int .i64 t] 37)).alloc (.cells #[.slice x N cap] 38)).alloc (.cells #[.int .i64 u] 3) = w0 at *
  refine (HBT.out w0).mono ?_
  rintro e w1 ⟨hbt, hb1⟩
  have HB1 : Hid (Below w.heap.size w w1) := HB0.out.trans (hb1.mono HB0.out.size)
  rcases hbt with rfl | ⟨rfl, hno⟩
  · go_wp2
    go_ret
    exact ⟨rfl, HB1.out⟩
  · have x5 := (hb1.block w.heap.size (by have := HS0.out; omega)).trans HX5.out
    have x6 := (hb1.block (w.heap.size + 1) (by have := HS0.out; omega)).trans HX6.out
    have x7 := (hb1.block (w.heap.size + 1 + 1) (by have := HS0.out; omega)).trans HX7.out
    have hs1 : w.heap.size + 3 ≤ w1.heap.size := by have h1 := HS0.out; have h2 := hb1.size; omega
    have HY5 : Hid (w1.heap[w.heap.size]? = some (.cells #[.int .i64 n, .int .i64 t] 37 (0, 0))) := x5
    have HY6 : Hid (w1.heap[w.heap.size + 1]? = some (.cells #[.slice x N cap] 38 (0, 0))) := x6
    have HY7 : Hid (w1.heap[w.heap.size + 1 + 1]? = some (.cells #[.int .i64 u] 3 (0, 0))) := x7
    have c50 : w1.cell? ⟨w.heap.size, 0, none⟩ = some (.int .i64 n) := by simp [World.cell?, x5]
    have c51 : w1.cell? ⟨w.heap.size, 1, none⟩ = some (.int .i64 t) := by simp [World.cell?, x5]
    have c60 : w1.cell? ⟨w.heap.size + 1, 0, none⟩ = some (.slice x N cap) := by simp [World.cell?, x6]
    have c70 : w1.cell? ⟨w.heap.size + 1 + 1, 0, none⟩ = some (.int .i64 u) := by simp [World.cell?, x7]
    have HR1 := HRN.out w1 HB1.out hno
    clear HRN HBT hno HX5 HX6 HX7 x5 x6 x7 hb1 HS0
    go_wp2_with fail
    refine HR1.mono ?_
    rintro e w2 ⟨hrk, hb2⟩
    have HB2 : Hid (Below w.heap.size w w2) := HB1.out.trans (hb2.mono HB1.out.size)
    rcases hrk with rfl | ⟨sent, lost, sx, lx, sc, lc, wt, ms, rfl, hse, hlo, hkw, hr, hl, hu1⟩
    · clear HR1 hb2 c50 c51 c60 c70 HY5 HY6 HY7
      go_wp2_with fail
      have HBz : Hid (Below w.heap.size w (w2.alloc (.cells #[.slice none 0 0, .slice none 0 0, .int .i64 0, .int .i64 0] 41))) := HB2.out.alloc HB2.out.size _
      refine (HLT.out _ HBz.out).mono ?_
      rintro e w3 ⟨rfl, hb3⟩
      have HB3 : Hid (Below w.heap.size w w3) := Below.trans HBz.out (hb3.mono (Below.size HBz.out))
      clear hb3
      go_wp2_with fail
      refine (HPT.out _ HB3.out).mono ?_
      rintro e w4 ⟨rfl, hb4⟩
      have HB4 : Hid (Below w.heap.size w w4) := HB3.out.trans (hb4.mono HB3.out.size)
      clear hb4
      go_wp2_with fail
      refine (HLT.out _ HB4.out).mono ?_
      rintro e w5 ⟨rfl, hb5⟩
      have HB5 : Hid (Below w.heap.size w w5) := Below.trans HB4.out (hb5.mono (Below.size HB4.out))
      clear hb5
      go_wp2_with fail
      refine (HPT.out _ HB5.out).mono ?_
      rintro e w6 ⟨rfl, hb6⟩
      have HB6 : Hid (Below w.heap.size w w6) := HB5.out.trans (hb6.mono HB5.out.size)
      clear hb6
      go_wp2
      go_ret
      exact ⟨rfl, HB6.out⟩
    · have HSE : Hid (Seg w2 49 4 (.slice sx sent.length sc) sent.length (flt Snt.cs sent)) := hse
      have HLO : Hid (Ins w2 (.slice lx lost.length lc) lost) := hlo
      have HKW : Hid (KwL (NoShape s) items n t u sent lost wt) := hkw
      have HR : Hid (okRate n t = true) := hr
      have HOKL : Hid (okL items) := hl
      obtain ⟨sn, hsn⟩ : ∃ sn, sent.length = sn := ⟨_, rfl⟩
      obtain ⟨ln, hln⟩ : ∃ ln, lost.length = ln := ⟨_, rfl⟩
      have HSN : Hid (sent.length = sn) := hsn
      have HLN : Hid (lost.length = ln) := hln
      rw [hsn] at HSE ⊢
      rw [hln] at HLO ⊢
      have HZ5 : Hid (w2.heap[w.heap.size]? = some (.cells #[.int .i64 n, .int .i64 t] 37 (0, 0))) := (hb2.block _ (by omega)).trans HY5.out
      have HZ6 : Hid (w2.heap[w.heap.size + 1]? = some (.cells #[.slice x N cap] 38 (0, 0))) := (hb2.block _ (by omega)).trans HY6.out
      have HZ7 : Hid (w2.heap[w.heap.size + 1 + 1]? = some (.cells #[.int .i64 u] 3 (0, 0))) := (hb2.block _ (by omega)).trans HY7.out
      have hs2 : w.heap.size + 3 ≤ w2.heap.size := by have := hb2.size; omega
      clear HR1 hb2 c50 c51 c60 c70 HY5 HY6 HY7 hse hlo hkw hr hl hsn hln
      go_wp2_with fail
      have HBz : Hid (Below w.heap.size w (w2.alloc (.cells #[.slice sx sn sc, .slice lx ln lc, .int .i64 wt, .int .i64 ms] 41))) := HB2.out.alloc HB2.out.size _
      refine (HLT.out _ HBz.out).mono ?_
      rintro e w4 ⟨rfl, hb4⟩
      have HB4 : Hid (Below w.heap.size w w4) := HBz.out.trans (hb4.mono HBz.out.size)
      go_wp2_with fail
      refine (HPT.out _ HB4.out).mono ?_
      rintro e w5 ⟨rfl, hb5⟩
      have hb25 : Below w2.heap.size w2 w5 := (((Below.refl _ _).alloc (Nat.le_refl _) _).trans (hb4.mono (by simp))).trans (hb5.mono (by have := hb4.size; simp at this; omega))
      have hs5 : w2.heap.size + 1 ≤ w5.heap.size := by have h1 := hb4.size; have h2 := hb5.size; simp at h1; omega
      have HZ9 : Hid (w5.heap[w2.heap.size]? = some (.cells #[.slice sx sn sc, .slice lx ln lc, .int .i64 wt, .int .i64 ms] 41 (0, 0))) := (hb5.block _ (by have h1 := hb4.size; simp at h1; omega)).trans ((hb4.block _ (by simp)).trans (new_block _ _))
      have HB5 : Hid (Below w.heap.size w w5) := HB4.out.trans (hb5.mono HB4.out.size)
      have hmk := make_bools N (by omega)
      have hx6 := (hb25.block _ (by omega)).trans HZ6.out
      have z60 : w5.cell? ⟨w.heap.size + 1, 0, none⟩ = some (.slice x N cap) := by simp [World.cell?, hx6]
      have z60l : w.heap.size + 1 < w5.heap.size := by omega
      have HSM : Hid (∃ WS, WS = ((w5.alloc (.cells (madeCells #[.bool false] N) 4)).alloc (.cells #[.slice (some ⟨w5.heap.size, 0, none⟩) N N] 44)) ∧ Below w.heap.size w WS ∧ OwnK WS w5.heap.size N [] ∧ WS.heap.size = w5.heap.size + 2 ∧ WS.heap[w5.heap.size + 1]? = some (.cells #[.slice (some ⟨w5.heap.size, 0, none⟩) N N] 44 (0, 0)) ∧ (∀ k, k < w5.heap.size → WS.heap[k]? = w5.heap[k]?) ∧ Below w5.heap.size w5 WS) := by
        have hbA : Below w5.heap.size w5 ((w5.alloc (.cells (madeCells #[.bool false] N) 4)).alloc (.cells #[.slice (some ⟨w5.heap.size, 0, none⟩) N N] 44)) := below_alloc_ (below_alloc_ (Below.refl _ _) _) _
        exact ⟨_, rfl, HB5.out.trans (hbA.mono HB5.out.size), (OwnK.made w5 N).below (below_alloc_ (Below.refl _ _) _), by simp, new_block_ (by simp), fun k hk => hbA.block k hk, hbA⟩
      clear hb4 hx6
      go_wp2
      obtain ⟨WS, hWS, hbS, hoS, hsS, hx11, hkS, hbA⟩ := HSM.out
      rw [← hWS]
      clear HSM hWS hmk z60 z60l HB1 HB2 HB4 HB5 HBz HB0 HLT HPT hb5 a1 a2
      have hb2S : Below w2.heap.size w2 WS := hb25.trans (hbA.mono (by omega))
      have HY5 : Hid (WS.heap[w.heap.size]? = some (.cells #[.int .i64 n, .int .i64 t] 37 (0, 0))) := (hb2S.block _ (by omega)).trans HZ5.out
      have HY6 : Hid (WS.heap[w.heap.size + 1]? = some (.cells #[.slice x N cap] 38 (0, 0))) := (hb2S.block _ (by omega)).trans HZ6.out
      have HY7 : Hid (WS.heap[w.heap.size + 1 + 1]? = some (.cells #[.int .i64 u] 3 (0, 0))) := (hb2S.block _ (by omega)).trans HZ7.out
      have HY9 : Hid (WS.heap[w2.heap.size]? = some (.cells #[.slice sx sn sc, .slice lx ln lc, .int .i64 wt, .int .i64 ms] 41 (0, 0))) := (hbA.block _ (by omega)).trans HZ9.out
      obtain ⟨g, hg⟩ : ∃ g, w5.heap.size = g := ⟨_, rfl⟩
      rw [hg] at hoS hsS hx11 hs5 ⊢
      have HOS : Hid (OwnK WS g N []) := hoS
      have HBS : Hid (Below w.heap.size w WS) := hbS
      have HY11 : Hid (WS.heap[g + 1]? = some (.cells #[.slice (some ⟨g, 0, none⟩) N N] 44 (0, 0))) := hx11
      have HSENT : Hid (∀ i sd, sent[i]? = some sd → ∃ bs off, sx = some ⟨bs, off, none⟩ ∧ ∀ W, Ot (fun j => j = g) WS W → bs < W.heap.size ∧ W.cell? ⟨bs, off + i * 4, none⟩ = some (.int .i64 sd.n) ∧ W.cell? ⟨bs, off + i * 4 + 1, none⟩ = some (.int .i64 sd.f) ∧ W.cell? ⟨bs, off + i * 4 + 2, none⟩ = some (.int .i64 sd.t) ∧ W.cell? ⟨bs, off + i * 4 + 3, none⟩ = some (.int .i64 sd.m)) := by
        intro i sd hsd
        obtain ⟨bs, off, e, hb, d0, d1, d2, d3⟩ := sentK_at HSE.out hsd (by have h1 := (List.getElem?_eq_some_iff.1 hsd).1; have h2 := HSN.out; omega)
        refine ⟨bs, off, e, fun W hW => ?_⟩
        have hc : ∀ q, W.cell? ⟨bs, q, none⟩ = w2.cell? ⟨bs, q, none⟩ := fun q => by
          rw [hW.cell (p := ⟨bs, q, none⟩) (by show bs < _; omega) (by show ¬ bs = g; omega)]
          exact hb2S.cell (p := ⟨bs, q, none⟩) hb
        exact ⟨by have := hW.size; omega, (hc _).trans d0, (hc _).trans d1, (hc _).trans d2, (hc _).trans d3⟩
      have HLOST : Hid (∀ i k, lost[i]? = some k → ∃ bs off, lx = some ⟨bs, off, none⟩ ∧ ∀ W, Ot (fun j => j = g) WS W → bs < W.heap.size ∧ W.cell? ⟨bs, off + i, none⟩ = some (.int .i64 k)) := by
        intro i k hk
        have hlo' : Seg w2 3 1 (.slice lx ln lc) ln (lost.map (Value.int .i64)) := by have h := HLO.out; unfold Ins at h; rw [HLN.out] at h; exact h
        obtain ⟨bs, off, e, hb, d0⟩ := insK_at hlo' hk (by have h1 := (List.getElem?_eq_some_iff.1 hk).1; have h2 := HLN.out; omega)
        refine ⟨bs, off, e, fun W hW => ⟨by have := hW.size; omega, ?_⟩⟩
        rw [hW.cell (p := ⟨bs, off + i, none⟩) (by show bs < _; omega) (by show ¬ bs = g; omega)]
        exact (hb2S.cell (p := ⟨bs, off + i, none⟩) hb).trans d0
      have HITEM : Hid (∀ k, k < N → ∃ bx off, x = some ⟨bx, off, none⟩ ∧ ∀ W, Ot (fun j => j = g) WS W → bx < W.heap.size ∧ W.cell? ⟨bx, off + k * 5, none⟩ = some (.int .i64 (items.getD k it0).a) ∧ W.cell? ⟨bx, off + k * 5 + 1, none⟩ = some (.int .i64 (items.getD k it0).l)) := by
        intro k hk
        have hx : items[k]? = some (items.getD k it0) := by rw [List.getD_eq_getElem?_getD, List.getElem?_eq_getElem (by have := HN.out; omega)]; rfl
        rcases HIT.out with h | ⟨bx, off, h1, h2⟩
        · have := HN.out; rw [h] at this; simp at this; omega
        · obtain ⟨d0, d1, _⟩ := h2 k _ hx
          have hb := lt_of_cell d0
          have hb' : bx < w.heap.size := hb
          refine ⟨bx, off, h1, fun W hW => ?_⟩
          have hc : ∀ q, W.cell? ⟨bx, q, none⟩ = w.cell? ⟨bx, q, none⟩ := fun q => by
            rw [hW.cell (p := ⟨bx, q, none⟩) (by show bx < _; omega) (by show ¬ bx = g; omega)]
            exact HBS.out.cell (p := ⟨bx, q, none⟩) hb'
          exact ⟨by have := hW.size; omega, (hc _).trans d0, (hc _).trans d1⟩
      have HITS : Hid (∀ W, Ot (fun j => j = g) WS W → ItemsAt W x items) := by
        intro W hW
        rcases HIT.out with h | ⟨bx, off, h1, h2⟩
        · exact Or.inl h
        · refine Or.inr ⟨bx, off, h1, fun i y hy => ?_⟩
          have h3 := h2 i y hy
          have hb := lt_of_cell h3.1
          have hb' : bx < w.heap.size := hb
          have hc : ∀ q, W.cell? ⟨bx, q, none⟩ = w.cell? ⟨bx, q, none⟩ := fun q => by
            rw [hW.cell (p := ⟨bx, q, none⟩) (by show bx < _; omega) (by show ¬ bx = g; omega)]
            exact HBS.out.cell (p := ⟨bx, q, none⟩) hb'
          simp only [hc]
          exact h3
      obtain ⟨b9, hb9⟩ : ∃ b9, w2.heap.size = b9 := ⟨_, rfl⟩
      rw [hb9] at HY9 hs5 hs2 ⊢
      have HC : Hid (∀ W, Ot (fun j => j = g) WS W → (W.cell? ⟨w.heap.size, 0, none⟩ = some (.int .i64 n) ∧ W.cell? ⟨w.heap.size, 1, none⟩ = some (.int .i64 t) ∧ W.cell? ⟨w.heap.size + 1, 0, none⟩ = some (.slice x N cap) ∧ W.cell? ⟨w.heap.size + 1 + 1, 0, none⟩ = some (.int .i64 u) ∧ W.cell? ⟨b9, 0, none⟩ = some (.slice sx sn sc) ∧ W.cell? ⟨b9, 1, none⟩ = some (.slice lx ln lc) ∧ W.cell? ⟨b9, 2, none⟩ = some (.int .i64 wt) ∧ W.cell? ⟨g + 1, 0, none⟩ = some (.slice (some ⟨g, 0, none⟩) N N)) ∧ g + 2 ≤ W.heap.size ∧ w.heap.size + 3 ≤ b9 ∧ b9 < g) := by
        intro W hW
        have k5 := (hW.block w.heap.size (by omega) (by omega)).trans HY5.out
        have k6 := (hW.block (w.heap.size + 1) (by omega) (by omega)).trans HY6.out
        have k7 := (hW.block (w.heap.size + 1 + 1) (by omega) (by omega)).trans HY7.out
        have k9 := (hW.block b9 (by omega) (by omega)).trans HY9.out
        have k11 := (hW.block (g + 1) (by omega) (by omega)).trans HY11.out
        have hsz := hW.size
        refine ⟨⟨?_, ?_, ?_, ?_, ?_, ?_, ?_, ?_⟩, by omega, by omega, by omega⟩
        · simp [World.cell?, k5]
        · simp [World.cell?, k5]
        · simp [World.cell?, k6]
        · simp [World.cell?, k7]
        · simp [World.cell?, k9]
        · simp [World.cell?, k9]
        · simp [World.cell?, k9]
        · simp [World.cell?, k11]
      clear hb2S HY5 HY6 HY7 HY9 HY11 HZ5 HZ6 HZ7 HZ9 hbS hoS hx11 hkS hbA hs2 hs5 hsS hb25 hs1 HSE HLO HIT hg hb9
      have HU1 : Hid (u ≤ 10000000) := hu1
      have HM60 : Hid (N ≤ 60) := hm
      obtain ⟨hsn60, hln60⟩ : sn ≤ 60 ∧ ln ≤ 60 := by
        obtain ⟨_, _, _, _, hTl0⟩ := HKW.out.rest
        rw [List.length_append, List.length_map, HSN.out, HLN.out, HN.out] at hTl0
        omega
      clear hu1 hm
      go_loopw [12, 14] (fun fv iv wr => ∃ i : Nat, i ≤ sn ∧ fv = .int .i64 (frS sent i) ∧ iv = .int .i64 i ∧ Hid (Ot (fun j => j = g) WS wr) ∧ Hid (OwnK wr g N ((sent.map Snt.n ++ lost).take i))) (fun _ iv _ => sn - (intOf iv).toNat)
      case atStart => exact ⟨0, Nat.zero_le _, rfl, rfl, Ot.refl _ _, HOS.out⟩
      case round =>
        obtain ⟨i, hi, rfl, rfl, HO, HK⟩ := hrel
        obtain ⟨⟨c50, c51, c60, c70, c9, c91, c92, c11⟩, hgw, hb9w, hb9g⟩ := HC.out wr HO.out
        by_cases hlt : i < sn
        · obtain ⟨sd, hsd⟩ : ∃ sd, sent[i]? = some sd := ⟨_, List.getElem?_eq_getElem (by have := HSN.out; omega)⟩
          have hks := HKW.out.went i sd hsd
          obtain ⟨kn, hkn, hkN, hka, hkT, hkt⟩ := HKW.out.at (j := i) (k := sd.n) (by rw [List.getElem?_append_left (by rw [List.length_map, HSN.out]; exact hlt), List.getElem?_map, hsd]; rfl)
          rw [HN.out] at hkN
          obtain ⟨bs, off, hsx, hcs⟩ := HSENT.out i sd hsd
          obtain ⟨bx, offx, hx, hcx⟩ := HITEM.out kn hkN
          have HFS : Hid (frS sent (i + 1) = sd.t) := by show (sent.getD i snt0).t = sd.t; rw [List.getD_eq_getElem?_getD, hsd]; rfl
          have e1 := hks.free
          have e2 := hks.come
          have e3 := hks.upto
          have e4 := hks.thru
          have ekn : sd.n.toNat = kn := by omega
          rw [ekn] at e2 e4
          obtain ⟨sdn, sf, st, sm⟩ := sd
          simp only at hkn hkT hkt hcs HFS e1 e2 e3 e4
          subst hkn
          have HKT : Hid (((kn : Nat) : Int) ∉ (sent.map Snt.n ++ lost).take i) := hkT
          have HKA : Hid ((items.getD kn it0).a ≤ u) := hka
          have HKN : Hid (kn < N) := hkN
          have HKTT : Hid ((sent.map Snt.n ++ lost).take (i + 1) = (sent.map Snt.n ++ lost).take i ++ [((kn : Nat) : Int)]) := hkt
          have HCS : Hid (∀ W, Ot (fun j => j = g) WS W → bs < W.heap.size ∧ W.cell? ⟨bs, off + i * 4, none⟩ = some (.int .i64 (kn : Int)) ∧ W.cell? ⟨bs, off + i * 4 + 1, none⟩ = some (.int .i64 sf) ∧ W.cell? ⟨bs, off + i * 4 + 2, none⟩ = some (.int .i64 st) ∧ W.cell? ⟨bs, off + i * 4 + 3, none⟩ = some (.int .i64 sm)) := hcs
          obtain ⟨ia, hia⟩ : ∃ ia, (items.getD kn it0).a = ia := ⟨_, rfl⟩
          obtain ⟨il, hil⟩ : ∃ il, (items.getD kn it0).l = il := ⟨_, rfl⟩
          have HCX : Hid (∀ W, Ot (fun j => j = g) WS W → bx < W.heap.size ∧ W.cell? ⟨bx, offx + kn * 5, none⟩ = some (.int .i64 ia) ∧ W.cell? ⟨bx, offx + kn * 5 + 1, none⟩ = some (.int .i64 il)) := by rw [← hia, ← hil]; exact hcx
          rw [hia] at e2
          rw [hil] at e4
          obtain ⟨tk, htk⟩ : ∃ tk, tkL n t il = tk := ⟨_, rfl⟩
          have HTKV : Hid (tkL n t il = tk) := htk
          have htb := tkL_le (x := il) HR.out
          rw [htk] at e4 htb
          obtain ⟨fr, hfr⟩ : ∃ fr, frS sent i = fr := ⟨_, rfl⟩
          rw [hfr] at e1 ⊢
          obtain ⟨j0, j1, j2, j3, j4⟩ := hcs wr HO.out
          have d1 : decide (sf < fr) = false := by simp; omega
          have d2 : decide (sf < ia) = false := by simp; omega
          have d3 : decide (u < sf) = false := by simp; omega
          have hsf1 : sf ≤ 10000000 := by have := HU1.out; omega
          have hfr0 : 0 ≤ sf := by have h := ok_a0 HOKL.out hia; omega
          have d4 : (st != IntKind.i64.wrap (sf + tk)) = false := by rw [show IntKind.i64.wrap (sf + tk) = sf + tk by rw [IntKind.wrap_i64]; omega, e4]; simp
          have hki : (kn : Int) < (N : Int) := by omega
          subst hsx
          subst hx
          have hgl := HK.out.lt
          clear hks hka hkT hkt hcx hcs hsd e1 e2 e3 e4 ekn hia hil htk hfr c50 c51 c60 c70 c91 c92 c11
          go_wp2_with fail
          have HW1 : Hid (Ot (fun j => j = g) WS (wr.alloc (.cells #[.int .i64 (kn : Int), .int .i64 sf, .int .i64 st, .int .i64 sm] 49))) := HO.out.alloc _
          have HX1 : Hid ((wr.alloc (.cells #[.int .i64 (kn : Int), .int .i64 sf, .int .i64 st, .int .i64 sm] 49)).heap[wr.heap.size]? = some (.cells #[.int .i64 (kn : Int), .int .i64 sf, .int .i64 st, .int .i64 sm] 49 (0, 0))) := new_block _ _
          have HK1 : Hid (OwnK (wr.alloc (.cells #[.int .i64 (kn : Int), .int .i64 sf, .int .i64 st, .int .i64 sm] 49)) g N ((sent.map Snt.n ++ lost).take i)) := HK.out.below (below_alloc_ (Below.refl _ _) _)
          obtain ⟨bo, hbo⟩ : ∃ bo, wr.heap.size = bo := ⟨_, rfl⟩
          rw [hbo] at HX1 hgl ⊢
          generalize wr.alloc (.cells #[.int .i64 (kn : Int), .int .i64 sf, .int .i64 st, .int .i64 sm] 49) = w1 at *
          have hol := lt_of_block HX1.out
          have HCC : Hid (∀ W, Ot (fun j => j = g) w1 W → W.cell? ⟨bo, 0, none⟩ = some (.int .i64 (kn : Int)) ∧ W.cell? ⟨bo, 1, none⟩ = some (.int .i64 sf) ∧ W.cell? ⟨bo, 2, none⟩ = some (.int .i64 st) ∧ W.cell? ⟨bx, offx + kn * 5, none⟩ = some (.int .i64 ia) ∧ W.cell? ⟨bx, offx + kn * 5 + 1, none⟩ = some (.int .i64 il) ∧ W.cell? ⟨w.heap.size, 0, none⟩ = some (.int .i64 n) ∧ W.cell? ⟨w.heap.size, 1, none⟩ = some (.int .i64 t) ∧ W.cell? ⟨w.heap.size + 1, 0, none⟩ = some (.slice (some ⟨bx, offx, none⟩) N cap) ∧ W.cell? ⟨w.heap.size + 1 + 1, 0, none⟩ = some (.int .i64 u) ∧ W.cell? ⟨g + 1, 0, none⟩ = some (.slice (some ⟨g, 0, none⟩) N N)) := by
            intro W hW
            have kb := (hW.block bo hol (by omega)).trans HX1.out
            have hSW := HW1.out.trans hW
            obtain ⟨⟨c50, c51, c60, c70, _, _, _, c11⟩, _⟩ := HC.out W hSW
            obtain ⟨_, x0, x1⟩ := HCX.out W hSW
            exact ⟨by simp [World.cell?, kb], by simp [World.cell?, kb], by simp [World.cell?, kb], x0, x1, c50, c51, c60, c70, c11⟩
          have HON : Hid (∀ W, Below w1.heap.size w1 W → Calls Tryz.prog 13 #[.int .i64 (kn : Int), .pointer (some ⟨w.heap.size + 1, 0, none⟩), .pointer (some ⟨g + 1, 0, none⟩), .pointer (some ⟨w.heap.size + 1 + 1, 0, none⟩)] W fun e w' => e = .returned (.bool true) ∧ Hid (Ot (fun j => j = g) w1 w') ∧ Hid (OwnK w' g N ((sent.map Snt.n ++ lost).take (i + 1)))) := by
            intro W hW
            obtain ⟨_, _, _, _, _, _, _, c60, c70, c11⟩ := HCC.out W (Ot.of_below hW)
            refine (once_any kn W c60 c11 c70 (HK1.out.below hW) (HITS.out W (HW1.out.trans (Ot.of_below hW))) HN.out HKN.out HKT.out HKA.out).mono ?_
            rintro e w' ⟨rfl, h1, h2⟩
            refine ⟨rfl, (Ot.of_below hW).trans h1.out, ?_⟩
            rw [HKTT.out]
            exact h2.out
          have HTK : Hid (∀ W, Ot (fun j => j = g) w1 W → Calls Tryz.prog 14 #[.agg #[.int .i64 n, .int .i64 t], .int .i64 il] W fun e w' => e = .returned (.int .i64 tk) ∧ Hid (Ot (fun j => j = g) w1 w') ∧ Hid (Below W.heap.size W w')) := by
            intro W hW
            refine (takes_both n t il W HR.out).mono ?_
            rintro e w' ⟨rfl, hb⟩
            exact ⟨by rw [HTKV.out], hW.trans (Ot.of_below hb), hb⟩
          clear c9 j0 j1 j2 j3 j4 hgl
          go_region_held3 (fun W => W.cell? ⟨bo, 0, none⟩ = some (.int .i64 (kn : Int)) ∧ W.cell? ⟨bo, 1, none⟩ = some (.int .i64 sf) ∧ W.cell? ⟨bo, 2, none⟩ = some (.int .i64 st) ∧ W.cell? ⟨bx, offx + kn * 5, none⟩ = some (.int .i64 ia) ∧ W.cell? ⟨bx, offx + kn * 5 + 1, none⟩ = some (.int .i64 il) ∧ W.cell? ⟨w.heap.size, 0, none⟩ = some (.int .i64 n) ∧ W.cell? ⟨w.heap.size, 1, none⟩ = some (.int .i64 t) ∧ W.cell? ⟨w.heap.size + 1, 0, none⟩ = some (.slice (some ⟨bx, offx, none⟩) N cap) ∧ W.cell? ⟨w.heap.size + 1 + 1, 0, none⟩ = some (.int .i64 u) ∧ W.cell? ⟨g + 1, 0, none⟩ = some (.slice (some ⟨g, 0, none⟩) N N))
            (first
              | (with_reducible exact HCC.out _ HW3.out)
              | (with_reducible exact HCC.out _ HW2.out)
              | (with_reducible exact HCC.out _ (Ot.refl _ _).drew)
              | (with_reducible exact HCC.out _ (Ot.refl _ _)))
            (first
              | (go_at_call 13; refine (HON.out _ (Below.refl _ _).drew).mono ?_; rintro e w2 ⟨rfl, HW2, HK2⟩)
              | (go_at_call 14; refine (HTK.out _ HW2.out).mono ?_; rintro e w3 ⟨rfl, HW3, HB3⟩))
          obtain ⟨_, _, r2, _⟩ := HCC.out _ HW3.out
          have hol3 : bo < w3.heap.size := by have := HW3.out.size; omega
          go_wp2
          go_roundw
          case rel => exact ⟨i + 1, by omega, by rw [HFS.out], by go_num, HW1.out.trans HW3.out, HK2.out.below HB3.out⟩
          case measure => simp [intOf]; omega
        · have hie : i = sn := by omega
          have HK1 : Hid (OwnK wr g N ((sent.map Snt.n ++ lost).take (sn + 0))) := by rw [Nat.add_zero, ← hie]; exact HK
          clear hie HK c50 c51 c60 c70 c91 c92 c11
          go_wp2
          clear c9
          go_loopw [16] (fun iv wx => ∃ i2 : Nat, i2 ≤ ln ∧ iv = .int .i64 i2 ∧ Hid (Ot (fun j => j = g) WS wx) ∧ Hid (OwnK wx g N ((sent.map Snt.n ++ lost).take (sn + i2)))) (fun iv _ => ln - (intOf iv).toNat)
          case atStart => exact ⟨0, Nat.zero_le _, rfl, HO, HK1⟩
          case round =>
            clear HO HK1
            obtain ⟨i2, hi2, rfl, HO, HK⟩ := hrel
            obtain ⟨⟨c50, c51, c60, c70, c9, c91, c92, c11⟩, hgw2, _, _⟩ := HC.out wr HO.out
            by_cases hlt2 : i2 < ln
            · obtain ⟨kk, hkk⟩ : ∃ kk, lost[i2]? = some kk := ⟨_, List.getElem?_eq_getElem (by have := HLN.out; omega)⟩
              obtain ⟨kn, rfl, hkN, hka, hkT, hkt⟩ := HKW.out.at (j := sn + i2) (k := kk) (by rw [List.getElem?_append_right (by rw [List.length_map, HSN.out]; omega), List.length_map, HSN.out, Nat.add_sub_cancel_left]; exact hkk)
              rw [HN.out] at hkN
              obtain ⟨bs, off, hlx, hcs⟩ := HLOST.out i2 _ hkk
              obtain ⟨j5, j6⟩ := hcs wr HO.out
              have HON : Hid (∀ W, Below wr.heap.size wr W → Calls Tryz.prog 13 #[.int .i64 (kn : Int), .pointer (some ⟨w.heap.size + 1, 0, none⟩), .pointer (some ⟨g + 1, 0, none⟩), .pointer (some ⟨w.heap.size + 1 + 1, 0, none⟩)] W fun e w' => e = .returned (.bool true) ∧ Hid (Ot (fun j => j = g) WS w') ∧ Hid (OwnK w' g N ((sent.map Snt.n ++ lost).take (sn + (i2 + 1))))) := by
                intro W hW
                obtain ⟨⟨_, _, c60, c70, _, _, _, c11⟩, _⟩ := HC.out W (HO.out.trans (Ot.of_below hW))
                refine (once_any kn W c60 c11 c70 (HK.out.below hW) (HITS.out W (HO.out.trans (Ot.of_below hW))) HN.out hkN hkT hka).mono ?_
                rintro e w' ⟨rfl, h1, h2⟩
                refine ⟨rfl, (HO.out.trans (Ot.of_below hW)).trans h1.out, ?_⟩
                have e3 : sn + (i2 + 1) = sn + i2 + 1 := by omega
                rw [e3, hkt]
                exact h2.out
              subst hlx
              clear hkk hkN hka hkT hkt hcs c50 c51 c60 c70 c9 c92 c11
              go_wp2_with (go_at_call 13; refine (HON.out _ (by first | exact Below.refl _ _ | exact (Below.refl _ _).drew)).mono ?_; rintro e w2 ⟨rfl, HW2, HK2⟩)
              go_roundw
              case rel => exact ⟨i2 + 1, by omega, by go_num, HW2, HK2⟩
              case measure => simp [intOf]; omega
            · have hie2 : i2 = ln := by omega
              have HK1 : Hid (OwnK wr g N (sent.map Snt.n ++ lost)) := by
                have h : OwnK wr g N ((sent.map Snt.n ++ lost).take (sn + i2)) := HK
                rw [List.take_of_length_le (by rw [List.length_append, List.length_map, HSN.out, HLN.out]; omega)] at h
                exact h
              obtain ⟨p, hp, hw1, hw2, hTl⟩ := HKW.out.rest
              rw [HN.out] at hp hw1 hw2
              have HP : Hid (∀ j, j < N → ((items.getD j it0).a ≤ u ↔ j < p)) := hp
              have HWT : Hid (wt ≤ cntK (sent.map Snt.n ++ lost) p N ∧ (NoShape s → wt = cntK (sent.map Snt.n ++ lost) p N)) := ⟨hw1, hw2⟩
              generalize sent.map Snt.n ++ lost = T at *
              clear hie2 HK hp hw1 hw2 hTl c50 c51 c60 c70 c9 c92 c11
              go_wp2
              clear c91
              go_loopw [17, 18] (fun rv iv wx => ∃ k : Nat, k ≤ N ∧ rv = .int .i64 (cntK T p k) ∧ iv = .int .i64 k ∧ Hid (Ot (fun j => j = g) WS wx) ∧ Hid (OwnK wx g N T)) (fun _ iv _ => N - (intOf iv).toNat)
              case atStart => exact ⟨0, Nat.zero_le _, rfl, rfl, HO, HK1⟩
              case round =>
                clear HO HK1
                obtain ⟨k, hk, rfl, rfl, HO, HK⟩ := hrel
                obtain ⟨⟨c50, c51, c60, c70, c9, c91, c92, c11⟩, hgw3, _, _⟩ := HC.out wr HO.out
                have hgl3 := HK.out.lt
                have hck := cntK_le T p k
                have hm60 := HM60.out
                by_cases hlt3 : k < N
                · obtain ⟨bx, offx, hx, hcx⟩ := HITEM.out k hlt3
                  obtain ⟨x0, x1, _⟩ := hcx wr HO.out
                  have hpk := HP.out k hlt3
                  have cs := World.rowIs.cell HK.out (i := k) hlt3
                  obtain ⟨ia, hia⟩ : ∃ ia, (items.getD k it0).a = ia := ⟨_, rfl⟩
                  rw [hia] at x1 hpk
                  have hkN : (k : Int) < (N : Int) := by omega
                  have HCN : Hid (cntK T p (k + 1) = cntK T p k + if (k : Int) ∉ T ∧ k < p then 1 else 0) := rfl
                  obtain ⟨cv, hcv⟩ : ∃ cv, cntK T p k = cv := ⟨_, rfl⟩
                  rw [hcv] at HCN hck ⊢
                  subst hx
                  by_cases hT : (k : Int) ∈ T
                  · have e1 : T.contains ((k : Nat) : Int) = true := by simpa using hT
                    rw [e1] at cs
                    have HC2 : Hid (cntK T p (k + 1) = cv) := by have h := HCN.out; rw [if_neg (fun h => h.1 hT)] at h; exact h
                    clear hT hia hcv hcx hpk e1 c50 c51 c9 c91 c92
                    go_wp2
                    go_quiet (fail)
                    go_wp2
                    go_roundw
                    case rel => exact ⟨k + 1, by omega, by rw [HC2.out], by go_num, HO.out.drewN _, HK.out.drewN _⟩
                    case measure => simp [intOf]; omega
                  · have e1 : T.contains ((k : Nat) : Int) = false := by simpa using hT
                    rw [e1] at cs
                    by_cases hkp : k < p
                    · have HC2 : Hid (cntK T p (k + 1) = cv + 1) := by have h := HCN.out; rw [if_pos ⟨hT, hkp⟩] at h; exact h
                      have d1 : decide (ia ≤ u) = true := by have h := hpk.2 hkp; simpa using h
                      clear hT hia hcv hcx hpk e1 c50 c51 c9 c91 c92
                      go_wp2
                      go_quiet (fail)
                      go_wp2
                      go_roundw
                      case rel => exact ⟨k + 1, by omega, by rw [HC2.out]; go_num, by go_num, HO.out.drewN _, HK.out.drewN _⟩
                      case measure => simp [intOf]; omega
                    · have HC2 : Hid (cntK T p (k + 1) = cv) := by have h := HCN.out; rw [if_neg (fun h => hkp h.2)] at h; exact h
                      have d1 : decide (ia ≤ u) = false := by
                        have h : ¬ ia ≤ u := fun h => hkp (hpk.1 h)
                        simpa using h
                      clear hT hia hcv hcx hpk e1 c50 c51 c9 c91 c92
                      go_wp2
                      go_quiet (fail)
                      go_wp2
                      go_roundw
                      case rel => exact ⟨k + 1, by omega, by rw [HC2.out], by go_num, HO.out.drewN _, HK.out.drewN _⟩
                      case measure => simp [intOf]; omega
                · have hkN : k = N := by omega
                  have HBF : Hid (Below w.heap.size w wr) := HBS.out.trans (HO.out.below HBS.out.size (fun j hj => by omega))
                  subst hkN
                  have hwt := HWT.out
                  obtain ⟨cv, hcv⟩ : ∃ cv, cntK T p k = cv := ⟨_, rfl⟩
                  rw [hcv] at hwt hck ⊢
                  have HWV : Hid (wt ≤ cv ∧ (NoShape s → wt = cv)) := hwt
                  clear hwt hcv HWT HK HO c50 c51 c70 c9 c91 c11
                  go_wp2
                  clear c60
                  go_loopw [19] (fun jv wx => ∃ j : Nat, j ≤ s.size ∧ jv = .int .i64 j ∧ wx = wr ∧ Hid (∀ j', j' < j → j' + 5 ≤ s.size → ¬ (s.extract j' (j' + 5)).toList = shapeB)) (fun jv _ => s.size + 1 - (intOf jv).toNat)
                  case atStart => exact ⟨0, Nat.zero_le _, rfl, rfl, fun j hj => absurd hj (by omega)⟩
                  case round =>
                    obtain ⟨j, hj, rfl, rfl, HALL⟩ := hrel
                    by_cases h5 : j + 5 ≤ s.size
                    · have hj1 : (j : Int) ≤ (j : Int) + 5 := by omega
                      have hj2 : (j : Int) + 5 ≤ (s.size : Int) := by omega
                      have hj3 : ((j : Int) + 5).toNat = j + 5 := by omega
                      by_cases hr : (s.extract j (j + 5)).toList = shapeB
                      · have o1 : ((s.extract j (j + 5)).toList == [115, 104, 97, 112, 101]) = true := by rw [hr]; rfl
                        have o2 : decide (wt ≤ (cv : Int)) = true := decide_eq_true HWV.out.1
                        clear hr
                        go_wp2
                        go_ret
                        exact ⟨rfl, HBF.out⟩
                      · have o1 : ((s.extract j (j + 5)).toList == [115, 104, 97, 112, 101]) = false := by simpa [shapeB] using hr
                        have HR2 : Hid (¬ (s.extract j (j + 5)).toList = shapeB) := hr
                        clear hr
                        go_wp2
                        go_roundw
                        case rel =>
                          refine ⟨j + 1, by omega, by go_num, trivial, fun j' hj' h => ?_⟩
                          by_cases e : j' = j
                          · subst e; exact HR2.out
                          · exact HALL.out j' (by omega) h
                        case measure => simp [intOf]; omega
                    · have hj2 : ¬ (j : Int) + 5 ≤ (s.size : Int) := by omega
                      have hno : NoShape s := fun j' h => HALL.out j' (by omega) h
                      have o2 : ((cv : Int) == wt) = true := by simpa using (HWV.out.2 hno).symm
                      clear hno
                      go_wp2
                      go_ret
                      exact ⟨rfl, HBF.out⟩
/-- The law. -/
theorem linkKeeps_any (s : ByteArray) (n t : Int) (x : Option Addr) (cap : Nat) (items : List It) (u : Int) (w : World) (hG : Glob w) (hL : Laid w) (hit : ItemsAt w x items) (hs : s.size ≤ maxLen) (hm : items.length ≤ maxLen) :
    Calls Tryz.prog 4 #[.string s, .agg #[.int .i64 n, .int .i64 t], .slice x items.length cap, .int .i64 u] w fun e w' => e = .returned (.bool true) ∧ Below w.heap.size w w' := by
  by_cases h : s.size ≤ 400 ∧ items.length ≤ 60
  · exact linkKeeps_short s n t x cap items u w hG hL hit h.1 h.2
  · exact linkKeeps_long s n t x cap items.length u w hs hm h
end Go.Proofs.YtfakjedolecdcaaGreatDoor
