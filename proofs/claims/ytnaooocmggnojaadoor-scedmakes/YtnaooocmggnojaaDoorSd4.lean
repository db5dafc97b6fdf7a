/-
  sced.newRow: the row of a flow. Conditions: the flow lies in memory and may be; the plan is as long as what comes, and shorter than the promise.
-/
import Derived.Test.YtnaooocmggnojaaDoorSd3
import Derived.Deep.OwnRows
import Derived.Laws.IdiomCopy
namespace Go.Proofs.YtnaooocmggnojaaDoor
open Go.RowKit Go.Extern.Stop Go.Stop Go.Extern

theorem madeI (n i : Nat) (h : i < n) : (madeCells #[Value.int .i64 0] n)[i]? = some (.int .i64 0) := by
  have : (madeCells #[Value.int .i64 0] n).toList[i]? = some (.int .i64 0) := by rw [toList_madeCells_one]; simp [h]
  simpa using this
/-- copy into a row of zeros. -/
theorem copy_come (w : World) (g N : Nat) (x : Option Addr) (cx n : Nat) (c : Nat → Int) (hg : w.heap[g]? = some (.cells (madeCells #[Value.int .i64 0] N) 3 (0, 0))) (hx : Row w x n c) (hn : n ≤ N) :
    ∃ W, (Builtin.copy_ #[36, 36] 3 #[.slice (some ⟨g, 0, none⟩) N N, .slice x n cx]).run Tryd.prog w = .ok (goInt n) W ∧ (∃ cur, W.heap[g]? = some (.cells cur 3 (0, 0)) ∧ ∀ i, i < N → cur[i]? = some (.int .i64 (padF n c i))) ∧ Ot (· = g) w W ∧ W.heap.size = w.heap.size := by
  have hgl := lt_of_block hg
  have key : ∀ a : Addr, (∀ j v, (vals c n)[j]? = some v → w.cell? (a.add j) = some v) → ∃ W, (Builtin.copy_ #[36, 36] 3 #[.slice (some ⟨g, 0, none⟩) N N, .slice (some a) n cx]).run Tryd.prog w = .ok (goInt n) W ∧ (∃ cur, W.heap[g]? = some (.cells cur 3 (0, 0)) ∧ ∀ i, i < N → cur[i]? = some (.int .i64 (padF n c i))) ∧ Ot (· = g) w W ∧ W.heap.size = w.heap.size := by
    intro a ha
    have hl : (vals c n).length = n := by simp [vals]
    have hr := run_copy_row (P := Tryd.prog) w 36 36 3 3 g 0 N N a n cx (madeCells #[Value.int .i64 0] N) 3 (vals c n) Tryd.underlying36 (by kernel_rfl) hg (by rw [hl]; exact (Nat.min_eq_left hn).symm) ha (by rw [hl, size_madeCells]; omega) (fun v hv => by
      unfold vals at hv
      obtain ⟨j, _, rfl⟩ := List.mem_map.1 hv
      rfl)
    rw [hl] at hr
    refine ⟨_, hr, ⟨_, setRow_heap w g _ _ 3 _ hg, fun i hi => ?_⟩, ⟨rfl, rfl, rfl, by simp [World.setRow], fun k hk hs => ?_⟩, by simp [World.setRow]⟩
    · simp only [List.take_zero, List.nil_append, Nat.zero_add, List.getElem?_toArray]
      unfold padF
      split
      · rename_i h
        rw [List.getElem?_append_left (by rw [hl]; exact h), vals_at c n i h]
      · rename_i h
        rw [List.getElem?_append_right (by rw [hl]; omega), hl, List.getElem?_drop, toList_madeCells_one, List.getElem?_replicate, if_pos (by omega)]
    · simp only [World.setRow, Array.getElem?_modify]
      rw [if_neg (fun e => hs e.symm)]
  cases x with
  | some a =>
    refine key a fun j v hv => ?_
    rcases hx with rfl | ⟨b, off, e, hc⟩
    · simp [vals] at hv
    · simp only [Option.some.injEq] at e
      subst e
      rw [Addr.add_lit]
      have hj : j < n := by
        have := (List.getElem?_eq_some_iff.1 hv).1
        simpa [vals] using this
      rw [vals_at c n j hj] at hv
      simp only [Option.some.injEq] at hv
      subst hv
      exact hc j hj
  | none =>
    rcases hx with rfl | ⟨b, off, e, _⟩
    · refine ⟨w, ?_, ⟨_, hg, fun i hi => ?_⟩, Ot.refl _ _, rfl⟩
      · exact run_copy_none (P := Tryd.prog) w 36 36 3 3 _ none N N 0 cx Tryd.underlying36 (by kernel_rfl) (by simp)
      · rw [madeI N i hi]; simp [padF]
    · cases e

/-- What newRow leaves. -/
structure NewR (w w' : World) (r cb : Nat) (pv tv : Value) (n : Nat) (c : Nat → Int) (k : Nat) (P T : Nat → Int) : Prop where
  rw : RwAt w' r cb pv tv n c k P T 0 0
  lr : w.heap.size ≤ r
  lc : w.heap.size ≤ cb
  lp : ∀ b, pv.ownBlock = some b → w.heap.size ≤ b
  lt : ∀ b, tv.ownBlock = some b → w.heap.size ≤ b
  bel : Below w.heap.size w w'

theorem serve_all (x y : Option Addr) (cx cy n m : Nat) (c g : Nat → Int) (w : World) (hx : Row w x n c) (hy : Row w y m g) (h : okC m g) (hle : n ≤ m) (ha : ∀ i, i < n → okAmt (c i)) :
    Calls Tryd.prog 34 #[.slice x n cx, .slice y m cy] w fun e w' => ∃ s, e = .returned (.tuple #[.slice (some ⟨s, 0, none⟩) n n, .nilIface]) ∧ Row w' (some ⟨s, 0, none⟩) n (conv (tot c) g) ∧ Below w.heap.size w w' := by
  refine (serve_any x y cx cy n m c g w hx hy h hle).mono ?_
  rintro e w' ⟨⟨_, s, rfl, hr⟩ | ⟨hz, _⟩, hb⟩
  · exact ⟨s, rfl, hr, hb⟩
  · exact absurd ((fst0_zero n).2 fun i hi => amtE_zero.2 (ha i hi)) hz
theorem pad_tot {n : Nat} {c : Nat → Int} : ∀ t, tot (padF n c) t = tot c (min t n) := by
  intro t
  induction t with
  | zero => simp [tot]
  | succ t ih =>
    simp only [tot]
    rw [ih]
    unfold padF
    split
    · rw [show min t n = t by omega, show min (t + 1) n = t + 1 by omega]; rfl
    · rw [show min t n = n by omega, show min (t + 1) n = n by omega]; omega
/-- What comes of a flow that may be. -/
structure PadOk (c : Nat → Int) : Prop where
  lo : ∀ t, 0 ≤ c t
  hi : ∀ t, c t ≤ 100
  sum : ∀ t, 0 ≤ tot c t ∧ tot c t ≤ 100
theorem padOk {n : Nat} {c : Nat → Int} (h : ∀ t, t < n → 0 ≤ c t ∧ c t ≤ 100 ∧ tot c (t + 1) ≤ 100) : PadOk (padF n c) := by
  refine ⟨fun t => ?_, fun t => ?_, fun t => ?_⟩
  · unfold padF; split
    · rename_i ht; exact (h t ht).1
    · omega
  · unfold padF; split
    · rename_i ht; exact (h t ht).2.1
    · omega
  · rw [pad_tot]
    have h0 : 0 ≤ tot c (min t n) := by
      have := tot_mono (c := c) (n := n) (fun i hi => (h i hi).1) (min t n) 0 (by omega) (by omega)
      simpa [tot] using this
    refine ⟨h0, ?_⟩
    by_cases e : min t n = 0
    · rw [e]; simp [tot]
    · have := (h (min t n - 1) (by omega)).2.2
      rwa [show min t n - 1 + 1 = min t n by omega] at this

/-- The row while cells are put into it. -/
structure LoopR (w W wr : World) (r cb s : Nat) (n : Nat) (c : Nat → Int) (P S : Nat → Int) (K : Int) : Prop where
  ex : ∃ (k : Nat) (pv tv : Value), K = k ∧ RwAt wr r cb pv tv n c k P (fun _ => -1) 0 0 ∧ (∀ b, pv.ownBlock = some b → W.heap.size ≤ b) ∧ (∀ b, tv.ownBlock = some b → W.heap.size ≤ b)
  sv : Row wr (some ⟨s, 0, none⟩) n S
  slt : s < W.heap.size
  sr : s ≠ r
  bel : Below w.heap.size w wr
  sz : W.heap.size ≤ wr.heap.size
theorem row_ot {w w' : World} {S : Nat → Prop} {s n : Nat} {f : Nat → Int} (h : Row w (some ⟨s, 0, none⟩) n f) (ho : Ot S w w') (hs : ¬ S s) : Row w' (some ⟨s, 0, none⟩) n f := by
  rcases h with h | ⟨b, off, e, hc⟩
  · exact Or.inl h
  · simp only [Option.some.injEq, Addr.mk.injEq, and_true] at e
    obtain ⟨rfl, rfl⟩ := e
    refine Or.inr ⟨s, 0, rfl, fun i hi => ?_⟩
    exact (ho.cell (World.block_lt_of_cell? w _ (hc i hi)) hs).trans (hc i hi)
theorem LoopR.step {w W wr w' : World} {r cb s n k : Nat} {pv tv : Value} {c P S : Nat → Int} {K : Int} (L : LoopR w W wr r cb s n c P S K) (hw : w.heap.size ≤ W.heap.size) (hr : w.heap.size ≤ r) (hK : K = k) (hp : ∀ b, pv.ownBlock = some b → W.heap.size ≤ b) (ht : ∀ b, tv.ownBlock = some b → W.heap.size ≤ b) (A : AddR wr w' r cb pv tv n c k P (fun _ => -1) 0 0) : LoopR w W w' r cb s n c P S (K + 1) := by
  obtain ⟨pv', tv', h1, h2, h3⟩ := A.ex
  have hz := L.sz
  have hlt := L.slt
  refine ⟨⟨k + 1, pv', tv', by omega, h1, fun b e => ?_, fun b e => ?_⟩, row_ot L.sv A.ot ?_, L.slt, L.sr, ?_, Nat.le_trans L.sz A.ot.size⟩
  · rcases h2 b e with e | e
    · exact hp b e
    · omega
  · rcases h3 b e with e | e
    · exact ht b e
    · omega
  · rintro (e | e | e)
    · exact L.sr e
    · have := hp s e; omega
    · have := ht s e; omega
  · refine L.bel.trans (A.ot.below L.bel.size (fun b hb => ?_))
    rcases hb with e | e | e
    · omega
    · have := hp b e; omega
    · have := ht b e; omega

set_option maxRecDepth 20000 in
set_option maxHeartbeats 4000000 in
theorem newRow_any (f : Flw) (Tk : Nat) (w : World) (hf : FlwAt w f) (ok : FOk f f.n) (h1 : f.n ≤ Tk) (h2 : Tk < f.m) :
    Calls Tryd.prog 29 #[.agg #[.slice f.x f.n f.cx, .slice f.y f.m f.cy], .int .i64 Tk] w fun e w' => ∃ r cb pv tv, e = .returned (.tuple #[.pointer (some ⟨r, 0, none⟩), .nilIface]) ∧ NewR w w' r cb pv tv (Tk + 1) (padF f.n f.c) (tot (padF f.n f.c) (Tk + 1)).toNat (prm (padF f.n f.c) f.p Tk) (fun _ => -1) := by
  obtain ⟨x, cx, n, c, y, cy, m, p⟩ := f
  obtain ⟨rc, rp, _, _⟩ := hf
  obtain ⟨cv, _, _, come⟩ := ok
  simp only at rc rp cv come h1 h2 ⊢
  have b201 := cv.len
  have HRC : Hid (Row w x n c) := rc
  have HRP : Hid (Row w y m p) := rp
  have HCV : Hid (okC m p) := cv
  have HPD : Hid (PadOk (padF n c)) := padOk come
  clear rc rp cv come
  have hmk := run_make_row' (P := Tryd.prog) 36 3 (.int .i64 0) 8 Tryd.underlying36 infoInt rfl .i64 .i64 (Tk + 1) (by omega) (by omega)
  simp only [Int.natCast_add, Int.natCast_one] at hmk
  go_enter Tryd.func29, Tryd.ntmps29
  go_wp2
  clear hmk
  obtain ⟨W3, hW3⟩ : ∃ W3, W3 = (((w.alloc (.cells #[.slice x n cx, .slice y m cy] 51)).alloc (.cells (madeCells #[Value.int .i64 0] (Tk + 1)) 3)).alloc (.cells #[.slice (some ⟨w.heap.size + 1, 0, none⟩) (Tk + 1) (Tk + 1), .slice none 0 0, .slice none 0 0, .int .i64 0, .int .i64 0] 74)) := ⟨_, rfl⟩
  rw [← hW3]
  have B3 : Below w.heap.size w W3 := by subst hW3; exact below_alloc_ (below_alloc_ (below_alloc_ (Below.refl _ _) _) _) _
  have k0 : W3.heap[w.heap.size]? = some (.cells #[.slice x n cx, .slice y m cy] 51 (0, 0)) := by
    subst hW3
    rw [Below.heap_alloc _ _ _ (by simp; omega), Below.heap_alloc _ _ _ (by simp)]
    exact new_block _ _
  have k1 : W3.heap[w.heap.size + 1]? = some (.cells (madeCells #[Value.int .i64 0] (Tk + 1)) 3 (0, 0)) := by
    subst hW3
    rw [Below.heap_alloc _ _ _ (by simp)]
    exact new_block_ (by simp)
  have k2 : W3.heap[w.heap.size + 1 + 1]? = some (.cells #[.slice (some ⟨w.heap.size + 1, 0, none⟩) (Tk + 1) (Tk + 1), .slice none 0 0, .slice none 0 0, .int .i64 0, .int .i64 0] 74 (0, 0)) := by
    subst hW3
    exact new_block_ (by simp)
  have hs3 : W3.heap.size = w.heap.size + 1 + 1 + 1 := by subst hW3; simp
  clear hW3
  obtain ⟨W4, hcp, hown, hot, hsz⟩ := copy_come W3.drew (w.heap.size + 1) (Tk + 1) x cx n c k1 (HRC.out.below (below_after B3 (Below.refl _ _).drew)) (by omega)
  have B4 : Below w.heap.size w W4 := Below.trans (b := W3.drew) B3.drew (Ot.below hot B3.size (fun b e => by omega))
  have k0' : W4.heap[w.heap.size]? = some (.cells #[.slice x n cx, .slice y m cy] 51 (0, 0)) := (hot.block _ (show _ < W3.heap.size by omega) (by omega)).trans k0
  have k2' : W4.heap[w.heap.size + 1 + 1]? = some (.cells #[.slice (some ⟨w.heap.size + 1, 0, none⟩) (Tk + 1) (Tk + 1), .slice none 0 0, .slice none 0 0, .int .i64 0, .int .i64 0] 74 (0, 0)) := (hot.block _ (show _ < W3.heap.size by omega) (by omega)).trans k2
  have hs4 : W4.heap.size = w.heap.size + 1 + 1 + 1 := hsz.trans hs3
  have z0 : W3.cell? ⟨w.heap.size, 0, none⟩ = some (.slice x n cx) := by simp [World.cell?, k0]
  have z1 : W3.cell? ⟨w.heap.size + 1 + 1, 0, none⟩ = some (.slice (some ⟨w.heap.size + 1, 0, none⟩) (Tk + 1) (Tk + 1)) := by simp [World.cell?, k2]
  have y0 : W4.cell? ⟨w.heap.size, 1, none⟩ = some (.slice y m cy) := by simp [World.cell?, k0']
  have y1 : W4.cell? ⟨w.heap.size + 1 + 1, 0, none⟩ = some (.slice (some ⟨w.heap.size + 1, 0, none⟩) (Tk + 1) (Tk + 1)) := by simp [World.cell?, k2']
  have HOWN : Hid (∃ cur, W4.heap[w.heap.size + 1]? = some (.cells cur 3 (0, 0)) ∧ ∀ i, i < Tk + 1 → cur[i]? = some (.int .i64 (padF n c i))) := hown
  have HK2 : Hid (W4.heap[w.heap.size + 1 + 1]? = some (.cells #[.slice (some ⟨w.heap.size + 1, 0, none⟩) (Tk + 1) (Tk + 1), .slice none 0 0, .slice none 0 0, .int .i64 0, .int .i64 0] 74 (0, 0))) := k2'
  have HB4 : Hid (Below w.heap.size w W4) := B4
  have HS4 : Hid (W4.heap.size = w.heap.size + 1 + 1 + 1) := hs4
  have hs3' : w.heap.size + 1 + 1 < W3.heap.size := by omega
  have hs4' : w.heap.size + 1 + 1 < W4.heap.size := by omega
  have hs5' : w.heap.size < W4.heap.size := by omega
  clear k0 k1 k2 k0' k2' hown B3 B4 hot hsz hs3 hs4
  go_region
  clear hcp z0 z1
  have HR4 : Hid (Row W4 (some ⟨w.heap.size + 1, 0, none⟩) (Tk + 1) (padF n c)) := by
    obtain ⟨cur, g1, g2⟩ := HOWN.out
    exact Or.inr ⟨_, 0, rfl, fun i hi => by simp only [World.cell?, g1, Nat.zero_add]; exact g2 i hi⟩
  have HAM : Hid (∀ i, i < Tk + 1 → okAmt (padF n c i)) := fun i _ => ⟨HPD.out.lo i, by have := HPD.out.hi i; omega⟩
  go_wp2_with fail
  go_cut [7, 8] (fun v e wx => ∃ s, v = .slice (some ⟨s, 0, none⟩) (Tk + 1) (Tk + 1) ∧ e = .nilIface ∧ Row wx (some ⟨s, 0, none⟩) (Tk + 1) (conv (tot (padF n c)) p) ∧ Below W4.heap.size W4 wx)
  case first =>
    go_region_with (go_at_call 34; refine (serve_all (some ⟨w.heap.size + 1, 0, none⟩) y (Tk + 1) cy (Tk + 1) m (padF n c) p _ (HR4.out.below (Below.refl _ _).drew) ((HRP.out.below HB4.out).below (Below.refl _ _).drew) HCV.out (by omega) HAM.out).mono ?_; rintro e w1 ⟨s, rfl, hrow, hb1⟩)
    all_goals
      go_wp2_with fail
      go_meet
      case rel => exact ⟨s, rfl, rfl, hrow, Below.trans (b := W4.drew) (Below.refl _ _).drew hb1⟩
  case rest =>
  obtain ⟨s, rfl, rfl, hrow, hbc⟩ := hcut
  have HBC : Hid (Below W4.heap.size W4 wc) := hbc
  have HROW : Hid (Row wc (some ⟨s, 0, none⟩) (Tk + 1) (conv (tot (padF n c)) p)) := hrow
  have hL0 : LoopR w wc wc (w.heap.size + 1 + 1) (w.heap.size + 1) s (Tk + 1) (padF n c) (prm (padF n c) p Tk) (conv (tot (padF n c)) p) 0 := by
    have g2 : wc.heap[w.heap.size + 1 + 1]? = some (.cells #[.slice (some ⟨w.heap.size + 1, 0, none⟩) (Tk + 1) (Tk + 1), .slice none 0 0, .slice none 0 0, .int .i64 0, .int .i64 0] 74 (0, 0)) := (hbc.block _ (by have := HS4.out; omega)).trans HK2.out
    have hc0 := hrow.at (i := 0) (by omega)
    refine ⟨⟨0, .slice none 0 0, .slice none 0 0, rfl, ⟨g2, ?_, Seg.nil _ _ _, Seg.nil _ _ _, by simp [Value.ownBlock], by simp [Value.ownBlock], fun b e => by simp [Value.ownBlock] at e⟩, fun b e => by simp [Value.ownBlock] at e, fun b e => by simp [Value.ownBlock] at e⟩, hrow, World.block_lt_of_cell? wc _ hc0, ?_, below_after HB4.out hbc, Nat.le_refl _⟩
    · obtain ⟨cur, g1, g3⟩ := HOWN.out
      exact ⟨cur, (hbc.block _ (by have := HS4.out; omega)).trans g1, g3⟩
    · rintro rfl
      have : wc.cell? ⟨w.heap.size + 1 + 1, 0, none⟩ = some (.slice (some ⟨w.heap.size + 1, 0, none⟩) (Tk + 1) (Tk + 1)) := by simp [World.cell?, g2]
      rw [hc0] at this
      cases this
  have HL0 : Hid (LoopR w wc wc (w.heap.size + 1 + 1) (w.heap.size + 1) s (Tk + 1) (padF n c) (prm (padF n c) p Tk) (conv (tot (padF n c)) p) 0) := hL0
  have HWC : Hid (w.heap.size ≤ wc.heap.size) := (below_after HB4.out hbc).size
  have y2 : wc.cell? ⟨w.heap.size + 1 + 1, 0, none⟩ = some (.slice (some ⟨w.heap.size + 1, 0, none⟩) (Tk + 1) (Tk + 1)) := (hbc.cell (p := ⟨w.heap.size + 1 + 1, 0, none⟩) hs4').trans y1
  have hs6 : w.heap.size + 1 + 1 < wc.heap.size := Nat.lt_of_lt_of_le hs4' hbc.size
  clear y0 y1 hrow hbc hL0 hs3' hs4' hs5'
  obtain ⟨r, HRR⟩ : ∃ r, Hid (r = w.heap.size + 1 + 1) := ⟨_, rfl⟩
  obtain ⟨cb, HCB⟩ : ∃ cb, Hid (cb = w.heap.size + 1) := ⟨_, rfl⟩
  rw [← HRR.out, ← HCB.out] at HL0 y2
  rw [← HRR.out] at hs6
  rw [← HRR.out]
  have HLR : Hid (w.heap.size ≤ r) := by show _ ≤ _; have := HRR.out; omega
  have HLC : Hid (w.heap.size ≤ cb) := by show _ ≤ _; have := HCB.out; omega
  clear HS4 HOWN HK2 HRR HR4
  obtain ⟨N, HN⟩ : ∃ N, Hid (Tk + 1 = N) := ⟨_, rfl⟩
  rw [HN.out] at HL0 y2
  rw [HN.out]
  have hNb : N ≤ 201 := by have := HN.out; omega
  go_wp2
  go_loopw [41] (fun i wr => ∃ j : Nat, j ≤ N ∧ i = .int .i64 j ∧ LoopR w wc wr r cb s N (padF n c) (prm (padF n c) p Tk) (conv (tot (padF n c)) p) (tot (padF n c) j)) (fun i _ => N - (intOf i).toNat)
  case atStart => exact ⟨0, Nat.zero_le _, rfl, HL0.out⟩
  case round =>
    obtain ⟨j, hj, rfl, hL⟩ := hrel
    have HL : Hid (LoopR w wc wr r cb s N (padF n c) (prm (padF n c) p Tk) (conv (tot (padF n c)) p) (tot (padF n c) j)) := hL
    by_cases hlt : j < N
    · obtain ⟨_, _, _, _, hrw, _, _⟩ := hL.ex
      have c0 := hrw.come.at hlt
      rw [Nat.zero_add] at c0
      have hcl := hrw.clt
      clear hrw hL
      obtain ⟨v, HV⟩ : ∃ v, Hid (padF n c j = v) := ⟨_, rfl⟩
      rw [HV.out] at c0
      have v0 : 0 ≤ v := by have := HPD.out.lo j; have := HV.out; omega
      have v1 : v ≤ 100 := by have := HPD.out.hi j; have := HV.out; omega
      go_wp2
      go_loopw [46] (fun i wr => ∃ q : Nat, (q : Int) ≤ v ∧ i = .int .i64 q ∧ LoopR w wc wr r cb s N (padF n c) (prm (padF n c) p Tk) (conv (tot (padF n c)) p) (tot (padF n c) j + q)) (fun i _ => v.toNat - (intOf i).toNat)
      case atStart => exact ⟨0, by simpa using v0, rfl, by simpa using HL.out⟩
      case round =>
        obtain ⟨q, hq, rfl, hL⟩ := hrel
        have HL2 : Hid (LoopR w wc wr r cb s N (padF n c) (prm (padF n c) p Tk) (conv (tot (padF n c)) p) (tot (padF n c) j + q)) := hL
        clear hL
        by_cases hqv : (q : Int) < v
        · obtain ⟨k, pv, tv, hK, hrw, hp, ht⟩ := HL2.out.ex
          have HK : Hid (tot (padF n c) j + q = k) := hK
          have HRW : Hid (RwAt wr r cb pv tv N (padF n c) k (prm (padF n c) p Tk) (fun _ => -1) 0 0) := hrw
          have HP : Hid (∀ b, pv.ownBlock = some b → wc.heap.size ≤ b) := hp
          have HT : Hid (∀ b, tv.ownBlock = some b → wc.heap.size ≤ b) := ht
          have hk : k < 1000000 := by have := (HPD.out.sum j).2; omega
          clear hK hrw hp ht
          go_wp2_with fail
          refine (add_any wr s N N (conv (tot (padF n c)) p) HRW.out HL2.out.sv (by omega) hk (by unfold prm; rw [HN.out]) rfl).mono ?_
          rintro e w2 ⟨rfl, hA⟩
          go_wp2
          go_roundw
          case rel =>
            refine ⟨q + 1, by omega, by go_num, ?_⟩
            have := HL2.out.step HWC.out HLR.out HK.out HP.out HT.out hA
            rwa [show tot (padF n c) j + (q : Int) + 1 = tot (padF n c) j + ((q + 1 : Nat) : Int) by push_cast; omega] at this
          case measure => simp [intOf]; omega
        · obtain rfl : (q : Int) = v := by omega
          go_wp2
          go_roundw
          case rel =>
            refine ⟨j + 1, by omega, by go_num, ?_⟩
            have := HL2.out
            rw [← HV.out] at this
            exact this
          case measure => simp [intOf]; omega
    · obtain rfl : j = N := by omega
      clear hL
      go_wp2
      go_ret2
      obtain ⟨k, pv, tv, hK, hrw, hp, ht⟩ := HL.out.ex
      refine ⟨r, cb, pv, tv, rfl, ⟨?_, HLR.out, HLC.out, fun b e => ?_, fun b e => ?_, HL.out.bel⟩⟩
      · rw [HN.out, hK, Int.toNat_natCast]; exact hrw
      · have := hp b e; have := HWC.out; omega
      · have := ht b e; have := HWC.out; omega
end Go.Proofs.YtnaooocmggnojaaDoor
