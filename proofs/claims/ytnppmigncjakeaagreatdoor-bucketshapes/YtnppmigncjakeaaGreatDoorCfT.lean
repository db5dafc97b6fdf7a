/-
  millraceref's Filled: to and Take as a bucket in plain numbers; nothing else that was there before is otherwise. Conditions: a bucket that may be, times up to MaxTime, at most MaxRoom bytes.
-/
import Derived.Test.YtnppmigncjakeaaGreatDoorCfR
import Derived.Test.YtnppmigncjakeaaGreatDoorGb
import Derived.Test.YtnppmigncjakeaaGreatDoorOrd
namespace Go.Proofs.YtnppmigncjakeaaGreatDoor
open Go.RowKit Go.Deep

theorem heap_set {w : World} {f : Nat} {cs : Array Value} {T : TypeId} (h : w.heap[f]? = some (.cells cs T (0, 0))) (o : Nat) (v : Value) : (w.setCell ⟨f, o, none⟩ v).heap[f]? = some (.cells (cs.setIfInBounds o v) T (0, 0)) := by
  have hlt := lt_of_block h
  have h' := Option.some.inj ((Array.getElem?_eq_getElem hlt).symm.trans h)
  show (w.heap.modify f _)[f]? = _
  rw [Array.getElem?_eq_getElem (by simpa using hlt), Array.getElem_modify_self, h']
  rfl
/-- A Filled's new level, and its new time. -/
theorem fil_lev {w wl : World} {f p b : Nat} {n t R lat lev : Int} (hf : w.heap[f]? = some (.cells #[.int .i64 n, .int .i64 t, .int .i64 R, .int .i64 lat, .pointer (some ⟨p, 0, none⟩)] 87 (0, 0))) (hb : Below w.heap.size w wl) (hr : FracR wl b lev t) :
    FilAt (wl.setCell ⟨f, 4, none⟩ (.pointer (some ⟨b, 0, none⟩))) f n t R lev lat ∧ Oth (· = f) w (wl.setCell ⟨f, 4, none⟩ (.pointer (some ⟨b, 0, none⟩))) := by
  have hl : wl.heap[f]? = some (.cells #[.int .i64 n, .int .i64 t, .int .i64 R, .int .i64 lat, .pointer (some ⟨p, 0, none⟩)] 87 (0, 0)) := (hb.block _ (lt_of_block hf)).trans hf
  refine ⟨⟨b, heap_set hl 4 _, ?_⟩, Oth.setCell (S := (· = f)) (Oth.of_below hb) (p := ⟨f, 4, none⟩) rfl _⟩
  exact hr.oth hl fil_kind (Oth.setCell (S := (· = f)) (Oth.refl _ _) (p := ⟨f, 4, none⟩) rfl _)
theorem FilAt.setLat {w : World} {f : Nat} {n t R lev lat : Int} (h : FilAt w f n t R lev lat) (now : Int) : FilAt (w.setCell ⟨f, 3, none⟩ (.int .i64 now)) f n t R lev now ∧ Oth (· = f) w (w.setCell ⟨f, 3, none⟩ (.int .i64 now)) := by
  obtain ⟨p, hf, hr⟩ := h
  exact ⟨⟨p, heap_set hf 3 _, hr.oth hf fil_kind (Oth.setCell (S := (· = f)) (Oth.refl _ _) (p := ⟨f, 3, none⟩) rfl _)⟩, Oth.setCell (S := (· = f)) (Oth.refl _ _) (p := ⟨f, 3, none⟩) rfl _⟩
theorem fil_cells {w : World} {f p : Nat} {n t R lat : Int} (hf : w.heap[f]? = some (.cells #[.int .i64 n, .int .i64 t, .int .i64 R, .int .i64 lat, .pointer (some ⟨p, 0, none⟩)] 87 (0, 0))) :
    (w.cell? ⟨f, 0, none⟩ = some (.int .i64 n) ∧ w.cell? ⟨f, 1, none⟩ = some (.int .i64 t) ∧ w.cell? ⟨f, 2, none⟩ = some (.int .i64 R) ∧ w.cell? ⟨f, 3, none⟩ = some (.int .i64 lat) ∧ w.cell? ⟨f, 4, none⟩ = some (.pointer (some ⟨p, 0, none⟩))) ∧ w.frozen? ⟨f, 3, none⟩ = false ∧ w.frozen? ⟨f, 4, none⟩ = false := by
  refine ⟨⟨?_, ?_, ?_, ?_, ?_⟩, ?_, ?_⟩
  all_goals first | simp [World.cell?, hf] | simp [World.frozen?, hf]

theorem fto_same {n t R lev lat : Int} (now : Int) {f : Nat} (w : World) (h : FilAt w f n t R lev lat) (hc : now ≤ lat) :
    Calls Tryz.prog 50 #[.pointer (some ⟨f, 0, none⟩), .int .i64 now] w fun e w' => e = .returned (.tuple #[]) ∧ w' = w := by
  obtain ⟨p, hf, _⟩ := h
  obtain ⟨⟨_, _, _, c3, _⟩, _⟩ := fil_cells hf
  clear hf
  go_enter Tryz.func50, Tryz.ntmps50
  go_wp2
  first | go_end0 | refine bodyPost_ret (results_none rfl _ _ _) ?_
  exact ⟨rfl, rfl⟩

-- BEGIN to
/-- What holds at every point of the drawing in Filled.to. -/
structure ToI (w : World) (f p : Nat) (n t R lev lat d : Int) (l5 l6 l10 l15 l16 l17 l22 l23 l24 l25 l26 l27 l28 l29 : Prop) (t15 t16 t20 t25 t26 t27 t32 t33 t34 t35 t36 t37 t38 : Value) (b1 b2 b3 b4 b5 b6 : Nat) (w' : World) : Prop where
  c6 : l6 → l5
  c16 : l16 → l15
  c17 : l17 → l16
  c23 : l23 → l22
  c24 : l24 → l17 ∧ l23
  c25 : l25 → l10 ∧ l24
  c26 : l26 → l6 ∧ l25
  c28 : l28 → l27
  c29 : l29 → l26 ∧ l28
  f5 : l5 → t15 = .int .i64 R
  f6 : l6 → t16 = .pointer (some ⟨b1, 0, none⟩) ∧ (¬ l29 → FracR w' b1 R 1)
  f10 : l10 → t20 = .pointer (some ⟨p, 0, none⟩)
  f15 : l15 → t25 = .int .i64 lat
  f16 : l16 → t26 = .int .i64 d
  f17 : l17 → t27 = .pointer (some ⟨b2, 0, none⟩) ∧ (¬ l29 → FracR w' b2 d 1)
  f22 : l22 → t32 = .agg #[.int .i64 n, .int .i64 t]
  f23 : l23 → t33 = .pointer (some ⟨b3, 0, none⟩) ∧ (¬ l29 → FracR w' b3 n t)
  f24 : l24 → t34 = .pointer (some ⟨b4, 0, none⟩) ∧ (¬ l29 → FracR w' b4 (d * n) t)
  f25 : l25 → t35 = .pointer (some ⟨b5, 0, none⟩) ∧ (¬ l29 → FracR w' b5 (lev + d * n) t)
  f26 : l26 → t36 = .pointer (some ⟨b6, 0, none⟩) ∧ (¬ l29 → FracR w' b6 (if lev + d * n ≤ R * t then lev + d * n else R * t) t)
  f27 : l27 → t37 = .pointer (some ⟨f, 0, none⟩)
  f28 : l28 → t38 = .pointer (some ⟨f, 4, none⟩)
  w0 : ¬ l29 → Below w.heap.size w w'
  w1 : l29 → ∃ wl, w' = wl.setCell ⟨f, 4, none⟩ (.pointer (some ⟨b6, 0, none⟩)) ∧ Below w.heap.size w wl ∧ FracR wl b6 (if lev + d * n ≤ R * t then lev + d * n else R * t) t
set_option maxHeartbeats 4000000 in
theorem fto_more {n t R lev lat : Int} (now : Int) {f : Nat} (w : World) (h : FilAt w f n t R lev lat) (hb : okB n t R) (hl0 : 0 ≤ lev) (hl1 : lev ≤ R * t) (ht0 : 0 ≤ lat) (hc : lat < now) (ht1 : now ≤ 1000000000) :
    Calls Tryz.prog 50 #[.pointer (some ⟨f, 0, none⟩), .int .i64 now] w fun e w' => e = .returned (.tuple #[]) ∧ FilAt w' f n t R (pas n t R lev lat now) now ∧ Oth (· = f) w w' := by
  obtain ⟨hr0, hr1⟩ := hb.room
  have HN : Hid ((1 ≤ n ∧ n ≤ 1000000) ∧ (1 ≤ t ∧ t ≤ 1000000) ∧ 0 ≤ R ∧ R ≤ 1000000) := hb
  obtain ⟨p, hf, hp⟩ := h
  have HFB : Hid (w.heap[f]? = some (.cells #[.int .i64 n, .int .i64 t, .int .i64 R, .int .i64 lat, .pointer (some ⟨p, 0, none⟩)] 87 (0, 0))) := hf
  have HP : Hid (FracR w p lev t) := hp
  obtain ⟨d, hd⟩ : ∃ d, now - lat = d := ⟨_, rfl⟩
  have hw : IntKind.i64.wrap (now - lat) = d := by rw [IntKind.wrap_i64]; omega
  have hg := prod_bounds (n := n) (R := d) (a := 1000000) (b := 1000000000) (by have := HN.out; omega) HN.out.1.2 (by omega) (by omega)
  have HD : Hid (0 ≤ d ∧ d ≤ 1000000000) := ⟨by omega, by omega⟩
  have HG : Hid ((0 ≤ d * n ∧ d * n ≤ 1000000000000000) ∧ 0 ≤ lev ∧ lev ≤ 1000000000000) := ⟨by omega, by omega, by omega⟩
  have HPS : Hid (pas n t R lev lat now = if lev + d * n ≤ R * t then lev + d * n else R * t) := by show _ = _; rw [pas, if_neg (by omega), hd]
  have HK : Hid (∀ W : World, Below w.heap.size w W → (W.cell? ⟨f, 0, none⟩ = some (.int .i64 n) ∧ W.cell? ⟨f, 1, none⟩ = some (.int .i64 t) ∧ W.cell? ⟨f, 2, none⟩ = some (.int .i64 R) ∧ W.cell? ⟨f, 3, none⟩ = some (.int .i64 lat) ∧ W.cell? ⟨f, 4, none⟩ = some (.pointer (some ⟨p, 0, none⟩))) ∧ W.frozen? ⟨f, 3, none⟩ = false ∧ W.frozen? ⟨f, 4, none⟩ = false) := by
    intro W hW
    exact fil_cells ((hW.block _ (lt_of_block HFB.out)).trans HFB.out)
  obtain ⟨⟨c0, c1, c2, c3, c4⟩, z3, z4⟩ := HK.out w (Below.refl _ _)
  clear hf hp hb hl0 hl1 hd hg
  go_enter Tryz.func50, Tryz.ntmps50
  go_wp2_with fail
  clear c0 c1 c2 c3 c4 z3 z4
  refine wp_region_any (by kernel_rfl) ?_
  change wpAny _ _ _ _ _ _ _ (World.drew _)
  refine wpAny_take (i := 0) (v := ?_) rfl (by kernel_rfl) (by kernel_rfl) (by kernel_rfl) (fun _ _ _ h => h) (Or.inl ⟨by rfl, ?_⟩) ?_
  rotate_left
  · intro w; go_simp; try with_reducible rfl
  simp only [Act.put, List.getElem_toArray, List.getElem_cons_zero, List.setIfInBounds_toArray, List.set_cons_zero, List.set_cons_succ]
  refine wpAny_take (i := 1) (v := ?_) rfl (by kernel_rfl) (by kernel_rfl) (by kernel_rfl) (fun _ _ _ h => h) (Or.inl ⟨by rfl, ?_⟩) ?_
  rotate_left
  · intro w; go_simp; try with_reducible rfl
  simp only [Act.put, List.getElem_toArray, List.getElem_cons_zero, List.getElem_cons_succ, List.setIfInBounds_toArray, List.set_cons_zero, List.set_cons_succ]
  refine wpAny_take (i := 2) (v := ?_) rfl (by kernel_rfl) (by kernel_rfl) (by kernel_rfl) (fun _ _ _ h => h) (Or.inl ⟨by rfl, ?_⟩) ?_
  rotate_left
  · intro w; go_simp; try with_reducible rfl
  simp only [Act.put, List.getElem_toArray, List.getElem_cons_zero, List.getElem_cons_succ, List.setIfInBounds_toArray, List.set_cons_zero, List.set_cons_succ]
  refine wpAny_take (i := 3) (v := ?_) rfl (by kernel_rfl) (by kernel_rfl) (by kernel_rfl) (fun _ _ _ h => h) (Or.inl ⟨by rfl, ?_⟩) ?_
  rotate_left
  · intro w; go_simp; try with_reducible rfl
  simp only [Act.put, List.getElem_toArray, List.getElem_cons_zero, List.getElem_cons_succ, List.setIfInBounds_toArray, List.set_cons_zero, List.set_cons_succ]
  refine wpAny_take (i := 4) (v := ?_) rfl (by kernel_rfl) (by kernel_rfl) (by kernel_rfl) (fun _ _ _ h => h) (Or.inl ⟨by rfl, ?_⟩) ?_
  rotate_left
  · intro w; go_simp; try with_reducible rfl
  simp only [Act.put, List.getElem_toArray, List.getElem_cons_zero, List.getElem_cons_succ, List.setIfInBounds_toArray, List.set_cons_zero, List.set_cons_succ]
  refine wpAny_take (i := 7) (v := ?_) rfl (by kernel_rfl) (by kernel_rfl) (by kernel_rfl) (fun _ _ _ h => h) (Or.inl ⟨by rfl, ?_⟩) ?_
  rotate_left
  · intro w; go_simp; try with_reducible rfl
  simp only [Act.put, List.getElem_toArray, List.getElem_cons_zero, List.getElem_cons_succ, List.setIfInBounds_toArray, List.set_cons_zero, List.set_cons_succ]
  refine wpAny_take (i := 8) (v := ?_) rfl (by kernel_rfl) (by kernel_rfl) (by kernel_rfl) (fun _ _ _ h => h) (Or.inl ⟨by rfl, ?_⟩) ?_
  rotate_left
  · intro w; go_simp; try with_reducible rfl
  simp only [Act.put, List.getElem_toArray, List.getElem_cons_zero, List.getElem_cons_succ, List.setIfInBounds_toArray, List.set_cons_zero, List.set_cons_succ]
  refine wpAny_take (i := 9) (v := ?_) rfl (by kernel_rfl) (by kernel_rfl) (by kernel_rfl) (fun _ _ _ h => h) (Or.inl ⟨by rfl, ?_⟩) ?_
  rotate_left
  · intro w; go_simp; try with_reducible rfl
  simp only [Act.put, List.getElem_toArray, List.getElem_cons_zero, List.getElem_cons_succ, List.setIfInBounds_toArray, List.set_cons_zero, List.set_cons_succ]
  refine wpAny_take (i := 11) (v := ?_) rfl (by kernel_rfl) (by kernel_rfl) (by kernel_rfl) (fun _ _ _ h => h) (Or.inl ⟨by rfl, ?_⟩) ?_
  rotate_left
  · intro w; go_simp; try with_reducible rfl
  simp only [Act.put, List.getElem_toArray, List.getElem_cons_zero, List.getElem_cons_succ, List.setIfInBounds_toArray, List.set_cons_zero, List.set_cons_succ]
  refine wpAny_take (i := 12) (v := ?_) rfl (by kernel_rfl) (by kernel_rfl) (by kernel_rfl) (fun _ _ _ h => h) (Or.inl ⟨by rfl, ?_⟩) ?_
  rotate_left
  · intro w; go_simp; try with_reducible rfl
  simp only [Act.put, List.getElem_toArray, List.getElem_cons_zero, List.getElem_cons_succ, List.setIfInBounds_toArray, List.set_cons_zero, List.set_cons_succ]
  refine wpAny_take (i := 13) (v := ?_) rfl (by kernel_rfl) (by kernel_rfl) (by kernel_rfl) (fun _ _ _ h => h) (Or.inl ⟨by rfl, ?_⟩) ?_
  rotate_left
  · intro w; go_simp; try with_reducible rfl
  simp only [Act.put, List.getElem_toArray, List.getElem_cons_zero, List.getElem_cons_succ, List.setIfInBounds_toArray, List.set_cons_zero, List.set_cons_succ]
  refine wpAny_take (i := 14) (v := ?_) rfl (by kernel_rfl) (by kernel_rfl) (by kernel_rfl) (fun _ _ _ h => h) (Or.inl ⟨by rfl, ?_⟩) ?_
  rotate_left
  · intro w; go_simp; try with_reducible rfl
  simp only [Act.put, List.getElem_toArray, List.getElem_cons_zero, List.getElem_cons_succ, List.setIfInBounds_toArray, List.set_cons_zero, List.set_cons_succ]
  refine wpAny_take (i := 18) (v := ?_) rfl (by kernel_rfl) (by kernel_rfl) (by kernel_rfl) (fun _ _ _ h => h) (Or.inl ⟨by rfl, ?_⟩) ?_
  rotate_left
  · intro w; go_simp; try with_reducible rfl
  simp only [Act.put, List.getElem_toArray, List.getElem_cons_zero, List.getElem_cons_succ, List.setIfInBounds_toArray, List.set_cons_zero, List.set_cons_succ]
  refine wpAny_take (i := 19) (v := ?_) rfl (by kernel_rfl) (by kernel_rfl) (by kernel_rfl) (fun _ _ _ h => h) (Or.inl ⟨by rfl, ?_⟩) ?_
  rotate_left
  · intro w; go_simp; try with_reducible rfl
  simp only [Act.put, List.getElem_toArray, List.getElem_cons_zero, List.getElem_cons_succ, List.setIfInBounds_toArray, List.set_cons_zero, List.set_cons_succ]
  refine wpAny_take (i := 20) (v := ?_) rfl (by kernel_rfl) (by kernel_rfl) (by kernel_rfl) (fun _ _ _ h => h) (Or.inl ⟨by rfl, ?_⟩) ?_
  rotate_left
  · intro w; go_simp; try with_reducible rfl
  simp only [Act.put, List.getElem_toArray, List.getElem_cons_zero, List.getElem_cons_succ, List.setIfInBounds_toArray, List.set_cons_zero, List.set_cons_succ]
  refine wpAny_take (i := 21) (v := ?_) rfl (by kernel_rfl) (by kernel_rfl) (by kernel_rfl) (fun _ _ _ h => h) (Or.inl ⟨by rfl, ?_⟩) ?_
  rotate_left
  · intro w; go_simp; try with_reducible rfl
  simp only [Act.put, List.getElem_toArray, List.getElem_cons_zero, List.getElem_cons_succ, List.setIfInBounds_toArray, List.set_cons_zero, List.set_cons_succ]
  refine wpAny_by (fun L a w' => ∃ (t15 t16 t20 t25 t26 t27 t32 t33 t34 t35 t36 t37 t38 : Value) (b1 b2 b3 b4 b5 b6 : Nat), a = { tmps := #[.pointer (some ⟨f, 0, none⟩), .int .i64 now, undef, undef, .int .i64 now, .pointer (some ⟨f, 0, none⟩), .pointer (some ⟨f, 0, none⟩), .pointer (some ⟨f, 3, none⟩), .int .i64 lat, .bool true, .pointer (some ⟨f, 0, none⟩), .pointer (some ⟨f, 0, none⟩), .pointer (some ⟨f, 0, none⟩), .pointer (some ⟨f, 0, none⟩), .pointer (some ⟨f, 2, none⟩), t15, t16, .pointer (some ⟨f, 0, none⟩), .pointer (some ⟨f, 0, none⟩), .pointer (some ⟨f, 4, none⟩), t20, .int .i64 now, .pointer (some ⟨f, 0, none⟩), .pointer (some ⟨f, 0, none⟩), .pointer (some ⟨f, 3, none⟩), t25, t26, t27, .pointer (some ⟨f, 0, none⟩), .pointer (some ⟨f, 0, none⟩), .pointer (some ⟨f, 0, none⟩), .pointer (some ⟨f, 0, none⟩), t32, t33, t34, t35, t36, t37, t38, undef, undef, undef, undef], defers := [] } ∧ ToI w f p n t R lev lat d (L 5) (L 6) (L 10) (L 15) (L 16) (L 17) (L 22) (L 23) (L 24) (L 25) (L 26) (L 27) (L 28) (L 29) t15 t16 t20 t25 t26 t27 t32 t33 t34 t35 t36 t37 t38 b1 b2 b3 b4 b5 b6 w') [5, 6, 10, 15, 16, 17, 22, 23, 24, 25, 26, 27, 28, 29] (by kernel_rfl) (by kernel_rfl) (by decide) ?_ ?_ ?_
  · intro L hL
    have n : ∀ i, i ∈ [5, 6, 10, 15, 16, 17, 22, 23, 24, 25, 26, 27, 28, 29] → L i → False := hL
    refine ⟨undef, undef, undef, undef, undef, undef, undef, undef, undef, undef, undef, undef, undef, 0, 0, 0, 0, 0, 0, rfl, ?_⟩
    exact ⟨fun h => (n 6 (by simp) h).elim, fun h => (n 16 (by simp) h).elim, fun h => (n 17 (by simp) h).elim, fun h => (n 23 (by simp) h).elim, fun h => (n 24 (by simp) h).elim, fun h => (n 25 (by simp) h).elim, fun h => (n 26 (by simp) h).elim, fun h => (n 28 (by simp) h).elim, fun h => (n 29 (by simp) h).elim, fun h => (n 5 (by simp) h).elim, fun h => (n 6 (by simp) h).elim, fun h => (n 10 (by simp) h).elim, fun h => (n 15 (by simp) h).elim, fun h => (n 16 (by simp) h).elim, fun h => (n 17 (by simp) h).elim, fun h => (n 22 (by simp) h).elim, fun h => (n 23 (by simp) h).elim, fun h => (n 24 (by simp) h).elim, fun h => (n 25 (by simp) h).elim, fun h => (n 26 (by simp) h).elim, fun h => (n 27 (by simp) h).elim, fun h => (n 28 (by simp) h).elim, fun _ => (Below.refl _ w).drew, fun h => (n 29 (by simp) h).elim⟩
  · rintro i L a w' hi hn hd ⟨t15, t16, t20, t25, t26, t27, t32, t33, t34, t35, t36, t37, t38, b1, b2, b3, b4, b5, b6, rfl, H⟩
    simp only [List.mem_cons, List.not_mem_nil, or_false] at hi
    have HH : Hid (ToI w f p n t R lev lat d (L 5) (L 6) (L 10) (L 15) (L 16) (L 17) (L 22) (L 23) (L 24) (L 25) (L 26) (L 27) (L 28) (L 29) t15 t16 t20 t25 t26 t27 t32 t33 t34 t35 t36 t37 t38 b1 b2 b3 b4 b5 b6 w') := H
    clear H
    rcases hi with rfl | rfl | rfl | rfl | rfl | rfl | rfl | rfl | rfl | rfl | rfl | rfl | rfl | rfl
    · clear hd
      have H := HH.out
      have n6 : ¬ L 6 := fun h => hn (H.c6 h)
      have n26 : ¬ L 26 := fun h => n6 (H.c26 h).1
      have n29 : ¬ L 29 := fun h => n26 (H.c29 h).1
      have HKn : Hid (¬ L 6 ∧ ¬ L 26 ∧ ¬ L 29) := ⟨n6, n26, n29⟩
      obtain ⟨⟨c0, c1, c2, c3, c4⟩, z3, z4⟩ := HK.out w' (H.w0 n29)
      clear H n6 n26 n29
      refine wpOp_step rfl (fun K hK => ?_)
      go_simp
      refine hK _ _ ⟨.int .i64 R, t16, t20, t25, t26, t27, t32, t33, t34, t35, t36, t37, t38, b1, b2, b3, b4, b5, b6, rfl, ?_⟩
      simp only [Nat.reduceEqDiff, false_or, true_or]
      have H := HH.out
      obtain ⟨n6, n26, n29⟩ := HKn.out
      exact ⟨fun h => (n6 h).elim, H.c16, H.c17, H.c23, H.c24, H.c25, fun h => (n26 h).elim, H.c28, fun h => (n29 h).elim, fun _ => rfl, H.f6, H.f10, H.f15, H.f16, H.f17, H.f22, H.f23, H.f24, H.f25, H.f26, H.f27, H.f28, H.w0, H.w1⟩
    · have hd := hd _ rfl
      simp [Region.binds] at hd
      have l5 : L 5 := by first | exact hd | exact hd.1 | exact hd.2 | exact hd.2.1 | exact hd.2.2 | exact hd.2.2.1 | exact hd.2.2.2 | exact hd.2.2.2.1 | exact hd.2.2.2.2
      clear hd
      have H := HH.out
      have n26 : ¬ L 26 := fun h => hn (H.c26 h).1
      have n29 : ¬ L 29 := fun h => n26 (H.c29 h).1
      have e5 := H.f5 l5
      subst e5
      have HKn : Hid (¬ L 26 ∧ ¬ L 29 ∧ L 5) := ⟨n26, n29, l5⟩
      clear H n26 n29 l5
      refine wpOp_step rfl (fun K hK => ?_)
      go_simp
      refine (rInt_any R _ (by have := HN.out; omega)).mono ?_
      rintro e w1 ⟨bb, rfl, hfr, hb⟩
      refine hK _ _ ⟨_, _, t20, t25, t26, t27, t32, t33, t34, t35, t36, t37, t38, bb, b2, b3, b4, b5, b6, rfl, ?_⟩
      simp only [Nat.reduceEqDiff, false_or, true_or]
      have H := HH.out
      obtain ⟨n26, n29, l5⟩ := HKn.out
      exact ⟨fun _ => l5, H.c16, H.c17, H.c23, H.c24, H.c25, fun h => (n26 h).elim, H.c28, fun h => (n29 h).elim, H.f5, fun _ => ⟨rfl, fun _ => hfr⟩, H.f10, H.f15, H.f16, fun h => ⟨(H.f17 h).1, fun h' => ((H.f17 h).2 h').below hb⟩, H.f22, fun h => ⟨(H.f23 h).1, fun h' => ((H.f23 h).2 h').below hb⟩, fun h => ⟨(H.f24 h).1, fun h' => ((H.f24 h).2 h').below hb⟩, fun h => ⟨(H.f25 h).1, fun h' => ((H.f25 h).2 h').below hb⟩, fun h => (n26 h).elim, H.f27, H.f28, fun h => (H.w0 h).trans (hb.mono (H.w0 h).size), fun h => (n29 h).elim⟩
    · clear hd
      have H := HH.out
      have n25 : ¬ L 25 := fun h => hn (H.c25 h).1
      have n26 : ¬ L 26 := fun h => n25 (H.c26 h).2
      have n29 : ¬ L 29 := fun h => n26 (H.c29 h).1
      have HKn : Hid (¬ L 25 ∧ ¬ L 26 ∧ ¬ L 29) := ⟨n25, n26, n29⟩
      obtain ⟨⟨c0, c1, c2, c3, c4⟩, z3, z4⟩ := HK.out w' (H.w0 n29)
      clear H n25 n26 n29
      refine wpOp_step rfl (fun K hK => ?_)
      go_simp
      refine hK _ _ ⟨t15, t16, .pointer (some ⟨p, 0, none⟩), t25, t26, t27, t32, t33, t34, t35, t36, t37, t38, b1, b2, b3, b4, b5, b6, rfl, ?_⟩
      simp only [Nat.reduceEqDiff, false_or, true_or]
      have H := HH.out
      obtain ⟨n25, n26, n29⟩ := HKn.out
      exact ⟨H.c6, H.c16, H.c17, H.c23, H.c24, fun h => (n25 h).elim, fun h => (n26 h).elim, H.c28, fun h => (n29 h).elim, H.f5, H.f6, fun _ => rfl, H.f15, H.f16, H.f17, H.f22, H.f23, H.f24, H.f25, H.f26, H.f27, H.f28, H.w0, H.w1⟩
    · clear hd
      have H := HH.out
      have n16 : ¬ L 16 := fun h => hn (H.c16 h)
      have n17 : ¬ L 17 := fun h => n16 (H.c17 h)
      have n24 : ¬ L 24 := fun h => n17 (H.c24 h).1
      have n25 : ¬ L 25 := fun h => n24 (H.c25 h).2
      have n26 : ¬ L 26 := fun h => n25 (H.c26 h).2
      have n29 : ¬ L 29 := fun h => n26 (H.c29 h).1
      have HKn : Hid (¬ L 16 ∧ ¬ L 17 ∧ ¬ L 24 ∧ ¬ L 25 ∧ ¬ L 26 ∧ ¬ L 29) := ⟨n16, n17, n24, n25, n26, n29⟩
      obtain ⟨⟨c0, c1, c2, c3, c4⟩, z3, z4⟩ := HK.out w' (H.w0 n29)
      clear H n16 n17 n24 n25 n26 n29
      refine wpOp_step rfl (fun K hK => ?_)
      go_simp
      refine hK _ _ ⟨t15, t16, t20, .int .i64 lat, t26, t27, t32, t33, t34, t35, t36, t37, t38, b1, b2, b3, b4, b5, b6, rfl, ?_⟩
      simp only [Nat.reduceEqDiff, false_or, true_or]
      have H := HH.out
      obtain ⟨n16, n17, n24, n25, n26, n29⟩ := HKn.out
      exact ⟨H.c6, fun h => (n16 h).elim, fun h => (n17 h).elim, H.c23, fun h => (n24 h).elim, fun h => (n25 h).elim, fun h => (n26 h).elim, H.c28, fun h => (n29 h).elim, H.f5, H.f6, H.f10, fun _ => rfl, H.f16, H.f17, H.f22, H.f23, H.f24, H.f25, H.f26, H.f27, H.f28, H.w0, H.w1⟩
    · have hd := hd _ rfl
      simp [Region.binds] at hd
      have l15 : L 15 := by first | exact hd | exact hd.1 | exact hd.2 | exact hd.2.1 | exact hd.2.2 | exact hd.2.2.1 | exact hd.2.2.2 | exact hd.2.2.2.1 | exact hd.2.2.2.2
      clear hd
      have H := HH.out
      have n17 : ¬ L 17 := fun h => hn (H.c17 h)
      have n24 : ¬ L 24 := fun h => n17 (H.c24 h).1
      have n25 : ¬ L 25 := fun h => n24 (H.c25 h).2
      have n26 : ¬ L 26 := fun h => n25 (H.c26 h).2
      have n29 : ¬ L 29 := fun h => n26 (H.c29 h).1
      have e15 := H.f15 l15
      subst e15
      have HKn : Hid (¬ L 17 ∧ ¬ L 24 ∧ ¬ L 25 ∧ ¬ L 26 ∧ ¬ L 29 ∧ L 15) := ⟨n17, n24, n25, n26, n29, l15⟩
      clear H n17 n24 n25 n26 n29 l15
      refine wpOp_step rfl (fun K hK => ?_)
      go_simp
      refine hK _ _ ⟨t15, t16, t20, _, .int .i64 d, t27, t32, t33, t34, t35, t36, t37, t38, b1, b2, b3, b4, b5, b6, rfl, ?_⟩
      simp only [Nat.reduceEqDiff, false_or, true_or]
      have H := HH.out
      obtain ⟨n17, n24, n25, n26, n29, l15⟩ := HKn.out
      exact ⟨H.c6, fun _ => l15, fun h => (n17 h).elim, H.c23, fun h => (n24 h).elim, fun h => (n25 h).elim, fun h => (n26 h).elim, H.c28, fun h => (n29 h).elim, H.f5, H.f6, H.f10, H.f15, fun _ => rfl, H.f17, H.f22, H.f23, H.f24, H.f25, H.f26, H.f27, H.f28, H.w0, H.w1⟩
    · have hd := hd _ rfl
      simp [Region.binds] at hd
      have l16 : L 16 := by first | exact hd | exact hd.1 | exact hd.2 | exact hd.2.1 | exact hd.2.2 | exact hd.2.2.1 | exact hd.2.2.2 | exact hd.2.2.2.1 | exact hd.2.2.2.2
      clear hd
      have H := HH.out
      have n24 : ¬ L 24 := fun h => hn (H.c24 h).1
      have n25 : ¬ L 25 := fun h => n24 (H.c25 h).2
      have n26 : ¬ L 26 := fun h => n25 (H.c26 h).2
      have n29 : ¬ L 29 := fun h => n26 (H.c29 h).1
      have e16 := H.f16 l16
      subst e16
      have HKn : Hid (¬ L 24 ∧ ¬ L 25 ∧ ¬ L 26 ∧ ¬ L 29 ∧ L 16) := ⟨n24, n25, n26, n29, l16⟩
      clear H n24 n25 n26 n29 l16
      refine wpOp_step rfl (fun K hK => ?_)
      go_simp
      refine (rInt_any d _ (by have := HD.out; omega)).mono ?_
      rintro e w1 ⟨bb, rfl, hfr, hb⟩
      refine hK _ _ ⟨t15, t16, t20, t25, _, _, t32, t33, t34, t35, t36, t37, t38, b1, bb, b3, b4, b5, b6, rfl, ?_⟩
      simp only [Nat.reduceEqDiff, false_or, true_or]
      have H := HH.out
      obtain ⟨n24, n25, n26, n29, l16⟩ := HKn.out
      exact ⟨H.c6, H.c16, fun _ => l16, H.c23, fun h => (n24 h).elim, fun h => (n25 h).elim, fun h => (n26 h).elim, H.c28, fun h => (n29 h).elim, H.f5, fun h => ⟨(H.f6 h).1, fun h' => ((H.f6 h).2 h').below hb⟩, H.f10, H.f15, H.f16, fun _ => ⟨rfl, fun _ => hfr⟩, H.f22, fun h => ⟨(H.f23 h).1, fun h' => ((H.f23 h).2 h').below hb⟩, fun h => (n24 h).elim, fun h => (n25 h).elim, fun h => (n26 h).elim, H.f27, H.f28, fun h => (H.w0 h).trans (hb.mono (H.w0 h).size), fun h => (n29 h).elim⟩
    · clear hd
      have H := HH.out
      have n23 : ¬ L 23 := fun h => hn (H.c23 h)
      have n24 : ¬ L 24 := fun h => n23 (H.c24 h).2
      have n25 : ¬ L 25 := fun h => n24 (H.c25 h).2
      have n26 : ¬ L 26 := fun h => n25 (H.c26 h).2
      have n29 : ¬ L 29 := fun h => n26 (H.c29 h).1
      have HKn : Hid (¬ L 23 ∧ ¬ L 24 ∧ ¬ L 25 ∧ ¬ L 26 ∧ ¬ L 29) := ⟨n23, n24, n25, n26, n29⟩
      obtain ⟨⟨c0, c1, c2, c3, c4⟩, z3, z4⟩ := HK.out w' (H.w0 n29)
      clear H n23 n24 n25 n26 n29
      refine wpOp_step rfl (fun K hK => ?_)
      go_simp
      refine hK _ _ ⟨t15, t16, t20, t25, t26, t27, .agg #[.int .i64 n, .int .i64 t], t33, t34, t35, t36, t37, t38, b1, b2, b3, b4, b5, b6, rfl, ?_⟩
      simp only [Nat.reduceEqDiff, false_or, true_or]
      have H := HH.out
      obtain ⟨n23, n24, n25, n26, n29⟩ := HKn.out
      exact ⟨H.c6, H.c16, H.c17, fun h => (n23 h).elim, fun h => (n24 h).elim, fun h => (n25 h).elim, fun h => (n26 h).elim, H.c28, fun h => (n29 h).elim, H.f5, H.f6, H.f10, H.f15, H.f16, H.f17, fun _ => rfl, H.f23, H.f24, H.f25, H.f26, H.f27, H.f28, H.w0, H.w1⟩
    · have hd := hd _ rfl
      simp [Region.binds] at hd
      have l22 : L 22 := by first | exact hd | exact hd.1 | exact hd.2 | exact hd.2.1 | exact hd.2.2 | exact hd.2.2.1 | exact hd.2.2.2 | exact hd.2.2.2.1 | exact hd.2.2.2.2
      clear hd
      have H := HH.out
      have n24 : ¬ L 24 := fun h => hn (H.c24 h).2
      have n25 : ¬ L 25 := fun h => n24 (H.c25 h).2
      have n26 : ¬ L 26 := fun h => n25 (H.c26 h).2
      have n29 : ¬ L 29 := fun h => n26 (H.c29 h).1
      have e22 := H.f22 l22
      subst e22
      have HKn : Hid (¬ L 24 ∧ ¬ L 25 ∧ ¬ L 26 ∧ ¬ L 29 ∧ L 22) := ⟨n24, n25, n26, n29, l22⟩
      clear H n24 n25 n26 n29 l22
      refine wpOp_step rfl (fun K hK => ?_)
      go_simp
      refine (rSpeed_any n t _ (by have := HN.out; omega) (by have := HN.out; omega)).mono ?_
      rintro e w1 ⟨bb, rfl, hfr, hb⟩
      refine hK _ _ ⟨t15, t16, t20, t25, t26, t27, _, _, t34, t35, t36, t37, t38, b1, b2, bb, b4, b5, b6, rfl, ?_⟩
      simp only [Nat.reduceEqDiff, false_or, true_or]
      have H := HH.out
      obtain ⟨n24, n25, n26, n29, l22⟩ := HKn.out
      exact ⟨H.c6, H.c16, H.c17, fun _ => l22, fun h => (n24 h).elim, fun h => (n25 h).elim, fun h => (n26 h).elim, H.c28, fun h => (n29 h).elim, H.f5, fun h => ⟨(H.f6 h).1, fun h' => ((H.f6 h).2 h').below hb⟩, H.f10, H.f15, H.f16, fun h => ⟨(H.f17 h).1, fun h' => ((H.f17 h).2 h').below hb⟩, H.f22, fun _ => ⟨rfl, fun _ => hfr⟩, fun h => (n24 h).elim, fun h => (n25 h).elim, fun h => (n26 h).elim, H.f27, H.f28, fun h => (H.w0 h).trans (hb.mono (H.w0 h).size), fun h => (n29 h).elim⟩
    · have hd := hd _ rfl
      simp [Region.binds] at hd
      have l17 : L 17 := by first | exact hd | exact hd.1 | exact hd.2 | exact hd.2.1 | exact hd.2.2 | exact hd.2.2.1 | exact hd.2.2.2 | exact hd.2.2.2.1 | exact hd.2.2.2.2
      have l23 : L 23 := by first | exact hd | exact hd.1 | exact hd.2 | exact hd.2.1 | exact hd.2.2 | exact hd.2.2.1 | exact hd.2.2.2 | exact hd.2.2.2.1 | exact hd.2.2.2.2
      clear hd
      have H := HH.out
      have n25 : ¬ L 25 := fun h => hn (H.c25 h).2
      have n26 : ¬ L 26 := fun h => n25 (H.c26 h).2
      have n29 : ¬ L 29 := fun h => n26 (H.c29 h).1
      obtain ⟨e17, g17⟩ := H.f17 l17
      subst e17
      obtain ⟨e23, g23⟩ := H.f23 l23
      subst e23
      have HQ : Hid (_ ∧ _) := ⟨g17 n29, g23 n29⟩
      have HKn : Hid (¬ L 25 ∧ ¬ L 26 ∧ ¬ L 29 ∧ L 17 ∧ L 23) := ⟨n25, n26, n29, l17, l23⟩
      clear H n25 n26 n29 l17 l23 g17 g23
      refine wpOp_step rfl (fun K hK => ?_)
      go_simp
      refine (fMul_any b2 b3 d n t _ HQ.out.1 HQ.out.2 HD.out HN.out.1 HN.out.2.1).mono ?_
      rintro e w1 ⟨bb, rfl, hfr, hb⟩
      refine hK _ _ ⟨t15, t16, t20, t25, t26, _, t32, _, _, t35, t36, t37, t38, b1, b2, b3, bb, b5, b6, rfl, ?_⟩
      simp only [Nat.reduceEqDiff, false_or, true_or]
      have H := HH.out
      obtain ⟨n25, n26, n29, l17, l23⟩ := HKn.out
      exact ⟨H.c6, H.c16, H.c17, H.c23, fun _ => ⟨l17, l23⟩, fun h => (n25 h).elim, fun h => (n26 h).elim, H.c28, fun h => (n29 h).elim, H.f5, fun h => ⟨(H.f6 h).1, fun h' => ((H.f6 h).2 h').below hb⟩, H.f10, H.f15, H.f16, fun h => ⟨(H.f17 h).1, fun h' => ((H.f17 h).2 h').below hb⟩, H.f22, fun h => ⟨(H.f23 h).1, fun h' => ((H.f23 h).2 h').below hb⟩, fun _ => ⟨rfl, fun _ => hfr⟩, fun h => (n25 h).elim, fun h => (n26 h).elim, H.f27, H.f28, fun h => (H.w0 h).trans (hb.mono (H.w0 h).size), fun h => (n29 h).elim⟩
    · have hd := hd _ rfl
      simp [Region.binds] at hd
      have l10 : L 10 := by first | exact hd | exact hd.1 | exact hd.2 | exact hd.2.1 | exact hd.2.2 | exact hd.2.2.1 | exact hd.2.2.2 | exact hd.2.2.2.1 | exact hd.2.2.2.2
      have l24 : L 24 := by first | exact hd | exact hd.1 | exact hd.2 | exact hd.2.1 | exact hd.2.2 | exact hd.2.2.1 | exact hd.2.2.2 | exact hd.2.2.2.1 | exact hd.2.2.2.2
      clear hd
      have H := HH.out
      have n26 : ¬ L 26 := fun h => hn (H.c26 h).2
      have n29 : ¬ L 29 := fun h => n26 (H.c29 h).1
      have e10 := H.f10 l10
      subst e10
      obtain ⟨e24, g24⟩ := H.f24 l24
      subst e24
      have HQ : Hid (FracR w' p lev t ∧ _) := ⟨HP.out.below (H.w0 n29), g24 n29⟩
      have HKn : Hid (¬ L 26 ∧ ¬ L 29 ∧ L 10 ∧ L 24) := ⟨n26, n29, l10, l24⟩
      clear H n26 n29 l10 l24 g24
      refine wpOp_step rfl (fun K hK => ?_)
      go_simp
      refine (fAdd_any p b4 lev (d * n) t _ HQ.out.1 HQ.out.2 (by have := HG.out; omega) (by have := HG.out; omega) HN.out.2.1).mono ?_
      rintro e w1 ⟨bb, rfl, hfr, hb⟩
      refine hK _ _ ⟨t15, t16, _, t25, t26, t27, t32, t33, _, _, t36, t37, t38, b1, b2, b3, b4, bb, b6, rfl, ?_⟩
      simp only [Nat.reduceEqDiff, false_or, true_or]
      have H := HH.out
      obtain ⟨n26, n29, l10, l24⟩ := HKn.out
      exact ⟨H.c6, H.c16, H.c17, H.c23, H.c24, fun _ => ⟨l10, l24⟩, fun h => (n26 h).elim, H.c28, fun h => (n29 h).elim, H.f5, fun h => ⟨(H.f6 h).1, fun h' => ((H.f6 h).2 h').below hb⟩, H.f10, H.f15, H.f16, fun h => ⟨(H.f17 h).1, fun h' => ((H.f17 h).2 h').below hb⟩, H.f22, fun h => ⟨(H.f23 h).1, fun h' => ((H.f23 h).2 h').below hb⟩, fun h => ⟨(H.f24 h).1, fun h' => ((H.f24 h).2 h').below hb⟩, fun _ => ⟨rfl, fun _ => hfr⟩, fun h => (n26 h).elim, H.f27, H.f28, fun h => (H.w0 h).trans (hb.mono (H.w0 h).size), fun h => (n29 h).elim⟩
    · have hd := hd _ rfl
      simp [Region.binds] at hd
      have l6 : L 6 := by first | exact hd | exact hd.1 | exact hd.2 | exact hd.2.1 | exact hd.2.2 | exact hd.2.2.1 | exact hd.2.2.2 | exact hd.2.2.2.1 | exact hd.2.2.2.2
      have l25 : L 25 := by first | exact hd | exact hd.1 | exact hd.2 | exact hd.2.1 | exact hd.2.2 | exact hd.2.2.1 | exact hd.2.2.2 | exact hd.2.2.2.1 | exact hd.2.2.2.2
      clear hd
      have H := HH.out
      have n29 : ¬ L 29 := fun h => hn (H.c29 h).1
      obtain ⟨e6, g6⟩ := H.f6 l6
      subst e6
      obtain ⟨e25, g25⟩ := H.f25 l25
      subst e25
      have HQ : Hid (_ ∧ _) := ⟨g6 n29, g25 n29⟩
      have HKn : Hid (¬ L 29 ∧ L 6 ∧ L 25) := ⟨n29, l6, l25⟩
      clear H n29 l6 l25 g6 g25
      refine wpOp_step rfl (fun K hK => ?_)
      go_simp
      refine (fLesser_any b1 b5 R (lev + d * n) t _ HQ.out.1 HQ.out.2 HN.out.2.2 (by have := HG.out; omega) HN.out.2.1).mono ?_
      rintro e w1 ⟨bb, rfl, hfr, hb⟩
      refine hK _ _ ⟨t15, _, t20, t25, t26, t27, t32, t33, t34, _, _, t37, t38, b1, b2, b3, b4, b5, bb, rfl, ?_⟩
      simp only [Nat.reduceEqDiff, false_or, true_or]
      have H := HH.out
      obtain ⟨n29, l6, l25⟩ := HKn.out
      exact ⟨H.c6, H.c16, H.c17, H.c23, H.c24, H.c25, fun _ => ⟨l6, l25⟩, H.c28, fun h => (n29 h).elim, H.f5, fun h => ⟨(H.f6 h).1, fun h' => ((H.f6 h).2 h').below hb⟩, H.f10, H.f15, H.f16, fun h => ⟨(H.f17 h).1, fun h' => ((H.f17 h).2 h').below hb⟩, H.f22, fun h => ⟨(H.f23 h).1, fun h' => ((H.f23 h).2 h').below hb⟩, fun h => ⟨(H.f24 h).1, fun h' => ((H.f24 h).2 h').below hb⟩, fun h => ⟨(H.f25 h).1, fun h' => ((H.f25 h).2 h').below hb⟩, fun _ => ⟨rfl, fun _ => hfr⟩, H.f27, H.f28, fun h => (H.w0 h).trans (hb.mono (H.w0 h).size), fun h => (n29 h).elim⟩
    · clear hd
      have H := HH.out
      have n28 : ¬ L 28 := fun h => hn (H.c28 h)
      have n29 : ¬ L 29 := fun h => n28 (H.c29 h).2
      have HKn : Hid (¬ L 28 ∧ ¬ L 29) := ⟨n28, n29⟩
      clear H n28 n29
      refine wpOp_step rfl (fun K hK => ?_)
      go_simp
      refine hK _ _ ⟨t15, t16, t20, t25, t26, t27, t32, t33, t34, t35, t36, .pointer (some ⟨f, 0, none⟩), t38, b1, b2, b3, b4, b5, b6, rfl, ?_⟩
      simp only [Nat.reduceEqDiff, false_or, true_or]
      have H := HH.out
      obtain ⟨n28, n29⟩ := HKn.out
      exact ⟨H.c6, H.c16, H.c17, H.c23, H.c24, H.c25, H.c26, fun h => (n28 h).elim, fun h => (n29 h).elim, H.f5, H.f6, H.f10, H.f15, H.f16, H.f17, H.f22, H.f23, H.f24, H.f25, H.f26, fun _ => rfl, H.f28, H.w0, H.w1⟩
    · have hd := hd _ rfl
      simp [Region.binds] at hd
      have l27 : L 27 := by first | exact hd | exact hd.1 | exact hd.2 | exact hd.2.1 | exact hd.2.2 | exact hd.2.2.1 | exact hd.2.2.2 | exact hd.2.2.2.1 | exact hd.2.2.2.2
      clear hd
      have H := HH.out
      have n29 : ¬ L 29 := fun h => hn (H.c29 h).2
      have e27 := H.f27 l27
      subst e27
      have HKn : Hid (¬ L 29 ∧ L 27) := ⟨n29, l27⟩
      clear H n29 l27
      refine wpOp_step rfl (fun K hK => ?_)
      go_simp
      refine hK _ _ ⟨t15, t16, t20, t25, t26, t27, t32, t33, t34, t35, t36, _, .pointer (some ⟨f, 4, none⟩), b1, b2, b3, b4, b5, b6, rfl, ?_⟩
      simp only [Nat.reduceEqDiff, false_or, true_or]
      have H := HH.out
      obtain ⟨n29, l27⟩ := HKn.out
      exact ⟨H.c6, H.c16, H.c17, H.c23, H.c24, H.c25, H.c26, fun _ => l27, fun h => (n29 h).elim, H.f5, H.f6, H.f10, H.f15, H.f16, H.f17, H.f22, H.f23, H.f24, H.f25, H.f26, H.f27, fun _ => rfl, H.w0, H.w1⟩
    · have hd := hd _ rfl
      simp [Region.binds] at hd
      have l26 : L 26 := by first | exact hd | exact hd.1 | exact hd.2 | exact hd.2.1 | exact hd.2.2 | exact hd.2.2.1 | exact hd.2.2.2 | exact hd.2.2.2.1 | exact hd.2.2.2.2
      have l28 : L 28 := by first | exact hd | exact hd.1 | exact hd.2 | exact hd.2.1 | exact hd.2.2 | exact hd.2.2.1 | exact hd.2.2.2 | exact hd.2.2.2.1 | exact hd.2.2.2.2
      clear hd
      have H := HH.out
      obtain ⟨e26, _⟩ := H.f26 l26
      have e28 := H.f28 l28
      subst e26 e28
      have HKn : Hid (L 26 ∧ L 28) := ⟨l26, l28⟩
      obtain ⟨⟨c0, c1, c2, c3, c4⟩, z3, z4⟩ := HK.out w' (H.w0 hn)
      clear H l26 l28
      refine wpOp_step rfl (fun K hK => ?_)
      go_simp
      refine hK _ _ ⟨t15, t16, t20, t25, t26, t27, t32, t33, t34, t35, _, t37, _, b1, b2, b3, b4, b5, b6, rfl, ?_⟩
      simp only [Nat.reduceEqDiff, false_or, true_or]
      have H := HH.out
      obtain ⟨l26, l28⟩ := HKn.out
      exact ⟨H.c6, H.c16, H.c17, H.c23, H.c24, H.c25, H.c26, H.c28, fun _ => ⟨l26, l28⟩, H.f5, fun h => ⟨(H.f6 h).1, fun h' => (h' trivial).elim⟩, H.f10, H.f15, H.f16, fun h => ⟨(H.f17 h).1, fun h' => (h' trivial).elim⟩, H.f22, fun h => ⟨(H.f23 h).1, fun h' => (h' trivial).elim⟩, fun h => ⟨(H.f24 h).1, fun h' => (h' trivial).elim⟩, fun h => ⟨(H.f25 h).1, fun h' => (h' trivial).elim⟩, fun h => ⟨(H.f26 h).1, fun h' => (h' trivial).elim⟩, H.f27, H.f28, fun h => (h trivial).elim, fun _ => ⟨w', rfl, H.w0 hn, (H.f26 l26).2 hn⟩⟩
  · rintro L a w' hL ⟨t15, t16, t20, t25, t26, t27, t32, t33, t34, t35, t36, t37, t38, b1, b2, b3, b4, b5, b6, rfl, H⟩
    obtain ⟨w6, rfl, hb6, h6⟩ := H.w1 (hL 29 (by simp))
    clear H hL
    have HE := fil_lev HFB.out hb6 h6
    rw [← HPS.out] at HE
    have HE1 : Hid (FilAt (w6.setCell ⟨f, 4, none⟩ (.pointer (some ⟨b6, 0, none⟩))) f n t R (pas n t R lev lat now) lat ∧ Oth (· = f) w (w6.setCell ⟨f, 4, none⟩ (.pointer (some ⟨b6, 0, none⟩)))) := HE
    obtain ⟨⟨c0, c1, c2, c3, c4⟩, z3, z4⟩ := HK.out w6 hb6
    clear HE hb6 h6
    go_wp2
    first | go_end0 | refine bodyPost_ret (results_none rfl _ _ _) ?_
    exact ⟨rfl, (HE1.out.1.setLat now).1, HE1.out.2.trans (HE1.out.1.setLat now).2⟩
-- END to

theorem fto_any {n t R lev lat : Int} (now : Int) {f : Nat} (w : World) (h : FilAt w f n t R lev lat) (hb : okB n t R) (hl0 : 0 ≤ lev) (hl1 : lev ≤ R * t) (ht0 : 0 ≤ lat) (ht1 : now ≤ 1000000000) :
    Calls Tryz.prog 50 #[.pointer (some ⟨f, 0, none⟩), .int .i64 now] w fun e w' => e = .returned (.tuple #[]) ∧ FilAt w' f n t R (pas n t R lev lat now) (lat1 lat now) ∧ Oth (· = f) w w' := by
  by_cases hc : now ≤ lat
  · refine (fto_same now w h hc).mono ?_
    rintro e w' ⟨rfl, rfl⟩
    refine ⟨rfl, ?_, Oth.refl _ _⟩
    rw [pas, lat1, if_pos hc, if_pos hc]
    exact h
  · refine (fto_more now w h hb hl0 hl1 ht0 (by omega) ht1).mono ?_
    rintro e w' ⟨rfl, h1, h2⟩
    refine ⟨rfl, ?_, h2⟩
    rw [lat1, if_neg hc]
    exact h1

set_option maxHeartbeats 2000000 in
theorem ftake_any {n t R lev lat : Int} (now l : Int) {f : Nat} (w : World) (h : FilAt w f n t R lev lat) (hb : okB n t R) (hl0 : 0 ≤ lev) (hl1 : lev ≤ R * t) (ht0 : 0 ≤ lat) (ht1 : now ≤ 1000000000) (hx : 0 ≤ l ∧ l ≤ 1000000) (hp0 : 0 ≤ pas n t R lev lat now ∧ pas n t R lev lat now ≤ R * t) :
    Calls Tryz.prog 25 #[.pointer (some ⟨f, 0, none⟩), .int .i64 now, .int .i64 l] w fun e w' => e = .returned (.bool (decide (l * t ≤ pas n t R lev lat now))) ∧ FilAt w' f n t R (if l * t ≤ pas n t R lev lat now then pas n t R lev lat now - l * t else pas n t R lev lat now) (lat1 lat now) ∧ Oth (· = f) w w' := by
  obtain ⟨hr0, hr1⟩ := hb.room
  have HT := fto_any now w h hb hl0 hl1 ht0 ht1
  have HN : Hid ((1 ≤ n ∧ n ≤ 1000000) ∧ (1 ≤ t ∧ t ≤ 1000000) ∧ 0 ≤ R ∧ R ≤ 1000000) := hb
  obtain ⟨V, hV⟩ : ∃ V, pas n t R lev lat now = V := ⟨_, rfl⟩
  rw [hV] at HT hp0 ⊢
  have HV : Hid ((0 ≤ V ∧ V ≤ 1000000000000) ∧ 0 ≤ l ∧ l ≤ 1000000) := ⟨by omega, hx⟩
  have hwl : wth l 0 1000000 = true := wth_iff.2 hx
  have hg : ¬ 1000000000 < now := by omega
  clear h hb hl0 hl1 ht0 hV hp0 hx hr0 hr1
  by_cases hcm : V < l * t
  · have HC : Hid (V < l * t) := hcm
    have HZ : Hid (cmpZ V (l * t) = -1) := by show _ = _; unfold cmpZ; rw [if_pos hcm]
    rw [decide_eq_false (Int.not_le.2 hcm), if_neg (Int.not_le.2 hcm)]
    clear hcm
    go_enter Tryz.func25, Tryz.ntmps25
    go_wp2_with (first | (go_at_call 34; refine (rwithin_any _ _ _ _).mono ?_; rintro e w' ⟨rfl, rfl⟩) | (go_at_call 50; refine HT.mono ?_; rintro e w1 ⟨rfl, hfl, ho1⟩))
    obtain ⟨p1, hf1, hp1⟩ := hfl
    have HF1 : Hid (w1.heap[f]? = some (.cells #[.int .i64 n, .int .i64 t, .int .i64 R, .int .i64 (lat1 lat now), .pointer (some ⟨p1, 0, none⟩)] 87 (0, 0))) := hf1
    have HP1 : Hid (FracR w1 p1 V t) := hp1
    have HO1 : Hid (Oth (· = f) _ w1) := ho1
    have HK : Hid (∀ W : World, Below w1.heap.size w1 W → W.cell? ⟨f, 4, none⟩ = some (.pointer (some ⟨p1, 0, none⟩)) ∧ W.frozen? ⟨f, 4, none⟩ = false) := by
      intro W hW
      have h1 := fil_cells ((hW.block _ (lt_of_block HF1.out)).trans HF1.out)
      exact ⟨h1.1.2.2.2.2, h1.2.2⟩
    obtain ⟨c4, z4⟩ := HK.out w1 (Below.refl _ _)
    clear hf1 hp1 ho1
    go_region_held3 (fun W => W.cell? ⟨f, 4, none⟩ = some (.pointer (some ⟨p1, 0, none⟩)) ∧ W.frozen? ⟨f, 4, none⟩ = false) (first | (with_reducible exact HK.out _ H2.out) | (with_reducible exact HK.out _ H1.out.2) | (with_reducible exact HK.out _ (Below.refl _ _).drew) | exact ⟨c4, z4⟩)
      (first
        | (go_at_call 39; refine (fCmp_any p1 b1 V l t _ (HP1.out.below H1.out.2) H1.out.1 (by have := HV.out; omega) HV.out.2 HN.out.2.1).mono ?_; rw [HZ.out]; rintro e w2 ⟨rfl, l2⟩; have H2 : Hid (Below w1.heap.size w1 w2) := H1.out.2.trans (l2.mono H1.out.2.size))
        | (go_at_call 35; refine (rInt_any l _ (by have := HV.out; omega)).mono ?_; rintro e wi ⟨b1, rfl, h1, l1⟩; have H1 : Hid (FracR wi b1 l 1 ∧ Below w1.heap.size w1 wi) := ⟨h1, (Below.refl _ _).drew.trans l1⟩; clear h1))
    all_goals
      go_wp2
      go_ret
      exact ⟨rfl, ⟨p1, (H2.out.block _ (lt_of_block HF1.out)).trans HF1.out, HP1.out.below H2.out⟩, HO1.out.trans (Oth.of_below H2.out)⟩
  · have HC : Hid (l * t ≤ V) := Int.not_lt.1 hcm
    obtain ⟨cz, hcz⟩ : ∃ cz, cmpZ V (l * t) = cz := ⟨_, rfl⟩
    have HZ : Hid (cmpZ V (l * t) = cz) := hcz
    have hneg : ¬ cz < 0 := by
      have h1 := cmpZ_lt V (l * t)
      rw [hcz] at h1
      simpa [hcm] using h1
    rw [decide_eq_true (Int.not_lt.1 hcm), if_pos (Int.not_lt.1 hcm)]
    clear hcm hcz
    go_enter Tryz.func25, Tryz.ntmps25
    go_wp2_with (first | (go_at_call 34; refine (rwithin_any _ _ _ _).mono ?_; rintro e w' ⟨rfl, rfl⟩) | (go_at_call 50; refine HT.mono ?_; rintro e w1 ⟨rfl, hfl, ho1⟩))
    obtain ⟨p1, hf1, hp1⟩ := hfl
    have HF1 : Hid (w1.heap[f]? = some (.cells #[.int .i64 n, .int .i64 t, .int .i64 R, .int .i64 (lat1 lat now), .pointer (some ⟨p1, 0, none⟩)] 87 (0, 0))) := hf1
    have HP1 : Hid (FracR w1 p1 V t) := hp1
    have HO1 : Hid (Oth (· = f) _ w1) := ho1
    have HK : Hid (∀ W : World, Below w1.heap.size w1 W → W.cell? ⟨f, 4, none⟩ = some (.pointer (some ⟨p1, 0, none⟩)) ∧ W.frozen? ⟨f, 4, none⟩ = false) := by
      intro W hW
      have h1 := fil_cells ((hW.block _ (lt_of_block HF1.out)).trans HF1.out)
      exact ⟨h1.1.2.2.2.2, h1.2.2⟩
    obtain ⟨c4, z4⟩ := HK.out w1 (Below.refl _ _)
    clear hf1 hp1 ho1
    go_region_held3 (fun W => W.cell? ⟨f, 4, none⟩ = some (.pointer (some ⟨p1, 0, none⟩)) ∧ W.frozen? ⟨f, 4, none⟩ = false) (first | (with_reducible exact HK.out _ H2.out) | (with_reducible exact HK.out _ H1.out.2) | (with_reducible exact HK.out _ (Below.refl _ _).drew) | exact ⟨c4, z4⟩)
      (first
        | (go_at_call 39; refine (fCmp_any p1 b1 V l t _ (HP1.out.below H1.out.2) H1.out.1 (by have := HV.out; omega) HV.out.2 HN.out.2.1).mono ?_; rw [HZ.out]; rintro e w2 ⟨rfl, l2⟩; have H2 : Hid (Below w1.heap.size w1 w2) := H1.out.2.trans (l2.mono H1.out.2.size))
        | (go_at_call 35; refine (rInt_any l _ (by have := HV.out; omega)).mono ?_; rintro e wi ⟨b1, rfl, h1, l1⟩; have H1 : Hid (FracR wi b1 l 1 ∧ Below w1.heap.size w1 wi) := ⟨h1, (Below.refl _ _).drew.trans l1⟩; clear h1))
    all_goals
      clear c4 z4
      obtain ⟨c4, z4⟩ := HK.out w2 H2.out
      go_wp2_with fail
      go_region_with
        (first
          | (go_at_call 41; refine (fSub_any p1 b3 V l t _ (HP1.out.below H3.out.2) H3.out.1 (by have := HV.out; omega) HV.out.2 HN.out.2.1).mono ?_; rintro e w4 ⟨b4, rfl, h4, l4⟩; have H4 : Hid (FracR w4 b4 (V - l * t) t ∧ Below w1.heap.size w1 w4) := ⟨h4, H3.out.2.trans (l4.mono H3.out.2.size)⟩; clear h4; obtain ⟨c4, z4⟩ := HK.out _ H4.out.2)
          | (go_at_call 35; refine (rInt_any l _ (by have := HV.out; omega)).mono ?_; rintro e w3 ⟨b3, rfl, h3, l3⟩; have H3 : Hid (FracR w3 b3 l 1 ∧ Below w1.heap.size w1 w3) := ⟨h3, H2.out.drew.trans (l3.mono H2.out.drew.size)⟩; clear h3; obtain ⟨c4, z4⟩ := HK.out _ H3.out.2))
      all_goals
        have HE : Hid (FilAt (w4.setCell ⟨f, 4, none⟩ (.pointer (some ⟨b4, 0, none⟩))) f n t R (V - l * t) (lat1 lat now) ∧ Oth (· = f) w1 (w4.setCell ⟨f, 4, none⟩ (.pointer (some ⟨b4, 0, none⟩)))) := fil_lev HF1.out H4.out.2 H4.out.1
        go_wp2
        go_ret
        exact ⟨rfl, HE.out.1, HO1.out.trans HE.out.2⟩
end Go.Proofs.YtnppmigncjakeaaGreatDoor
