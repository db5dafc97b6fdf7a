/-
  queue.List's Last and All, and slices.Clone at packets: what each returns and leaves; nothing else that was there before is otherwise. Conditions: the list lies in memory; few packets, none of them long.
-/
import Derived.Test.YtgiommaelipmhaaQd
namespace Go.Proofs.Ytgiommaelipmhaa
open Go.RowKit Go.Extern.Stop Go.Stop Go.Extern

theorem six_set' {w : World} {b : Nat} {t : TypeId} {p0 p1 p2 p3 p4 p5 : Value} (h : w.heap[b]? = some (.cells #[p0, p1, p2, p3, p4, p5] t (0, 0))) (a0 a1 a2 a3 a4 a5 : Value) :
    ((((((w.setCell ⟨b, 0, none⟩ a0).setCell ⟨b, 1, none⟩ a1).setCell ⟨b, 2, none⟩ a2).setCell ⟨b, 3, none⟩ a3).setCell ⟨b, 4, none⟩ a4).setCell ⟨b, 5, none⟩ a5).heap[b]? = some (.cells #[a0, a1, a2, a3, a4, a5] t (0, 0)) := by
  rw [heap_setCell_here (heap_setCell_here (heap_setCell_here (heap_setCell_here (heap_setCell_here (heap_setCell_here h a0) a1) a2) a3) a4) a5]
  simp
theorem snoc_or (L : List Hd) : L = [] ∨ ∃ A x, L = A ++ [x] := by
  rcases List.eq_nil_or_concat L with h | ⟨A, x, h⟩
  · exact Or.inl h
  · exact Or.inr ⟨A, x, by rw [h]; simp⟩
theorem seg_empty {w : World} {b : Nat} {e : TypeId} (h : w.heap[b]? = some (.cells #[] e (0, 0))) : Seg w e 6 (.slice (some ⟨b, 0, none⟩) 0 0) 0 [] := ⟨rfl, Or.inr ⟨b, 0, 0, #[], rfl, h, Nat.le_refl _, Nat.zero_le _, by simp, fun j u hj => by simp at hj⟩⟩
theorem flt_ones {α : Type} (cs : α → List Value) (h : ∀ x, ∀ u ∈ cs x, u.oneCell' = true) (xs : List α) : ∀ u ∈ flt cs xs, u.oneCell' = true := by
  intro u hu
  simp only [flt, List.mem_flatMap] at hu
  obtain ⟨x, _, hx⟩ := hu
  exact h x u hx
/-- The last one, or nothing. -/
def lsOr (L : List Hd) : Hd := L.getLastD hd0
theorem Hs.init {w : World} {b off cap : Nat} {A : List Hd} {x : Hd} (h : Hs w (.slice (some ⟨b, off, none⟩) (A.length + 1) cap) (A ++ [x])) : Hs w (.slice (some ⟨b, off, none⟩) A.length cap) A := by
  have h' : Seg w 32 6 (.slice (some ⟨b, off, none⟩) (A.length + 1) cap) (A.length + 1) (flt Hd.cs (A ++ [x])) := by simpa [Hs] using h
  have := Seg.take h' (m := A.length) (by omega)
  rw [flt_take Hd.cs 6 Hd.len] at this
  unfold Hs
  simpa using this
set_option maxHeartbeats 1000000 in
theorem last_any {b : Nat} {T : TypeId} {rest : List Value} {v : Value} {L : List Hd} (w : World) (h : LAt w b T rest v L) (hF : Fit L) :
    Calls Try.prog 6 #[.pointer (some ⟨b, 0, none⟩)] w fun e w' => e = .returned (.tuple #[(lsOr L).val, .bool (!L.isEmpty)]) ∧ ∃ v', LAt w' b T rest v' L.dropLast ∧ v'.ownBlock = v.ownBlock ∧ Ot (· = b) w w' := by
  have H : Hid (LAt w b T rest v L) := h
  have hb := h.lt
  obtain ⟨c0, c1, f0, f1⟩ := h.cells
  have hV := Hd.val_eq
  rcases snoc_or L with rfl | ⟨A, x, rfl⟩
  · obtain ⟨x, cap, rfl⟩ : ∃ x cap, v = .slice x 0 cap := by
      rcases h.row.form with ⟨rfl, h0, _⟩ | ⟨b, off, cap, rfl, _⟩
      · exact ⟨none, 0, rfl⟩
      · exact ⟨_, _, rfl⟩
    clear h
    go_enter Try.func6, Try.ntmps6
    go_wp2
    (try simp only [Exit.inBlock, Exit.then])
    refine bodyPost_ret (v := .tuple #[hd0.val, .bool false]) ?_ rfl ⟨rfl, _, H.out.below ?_, rfl, Ot.of_below ?_⟩
    · rw [results_cell_tmp rfl]
      go_simp
      exact ⟨rfl, rfl, rfl, rfl, rfl, rfl⟩
    all_goals repeat' (first | with_reducible exact Below.refl _ _ | with_reducible refine Below.setCell ?_ (by simp) _ | with_reducible refine below_alloc_ ?_ _)
  · obtain ⟨b1, off, cap, rfl, hn, hx, hlt, hc⟩ := h.row.some (by simp)
    have hat : ∀ j, j < 6 → (flt Hd.cs (A ++ [x]))[A.length * 6 + j]? = x.cs[j]? := fun j hj => flt_at Hd.cs 6 Hd.len (by simp) hj
    have k0 : w.cell? ⟨b1, off + A.length * 6, none⟩ = some (.int .i64 x.a) := hc _ _ (hat 0 (by omega))
    have k1 : w.cell? ⟨b1, off + A.length * 6 + 1, none⟩ = some (.int .i64 x.l) := hc _ _ (hat 1 (by omega))
    have k2 : w.cell? ⟨b1, off + A.length * 6 + 2, none⟩ = some (.int .i64 x.f) := hc _ _ (hat 2 (by omega))
    have k3 : w.cell? ⟨b1, off + A.length * 6 + 3, none⟩ = some (.int .i64 x.b) := hc _ _ (hat 3 (by omega))
    have k4 : w.cell? ⟨b1, off + A.length * 6 + 4, none⟩ = some (.int .i64 x.m) := hc _ _ (hat 4 (by omega))
    have k5 : w.cell? ⟨b1, off + A.length * 6 + 5, none⟩ = some (.int .i64 x.n) := hc _ _ (hat 5 (by omega))
    have hw : IntKind.i64.wrap (sumL (A ++ [x]) - x.l) = sumL A := by
      have h1 := Fit.sum hF.2
      have h4 := Fit.sum (L := A) (fun y hy => hF.2 y (by simp [hy]))
      have h3 := hF.1
      rw [IntKind.wrap_i64]
      rw [sumL_append] at h1 ⊢
      simp only [sumL, List.length_append, List.length_cons, List.length_nil] at h1 h3 ⊢
      omega
    have hne : b1 ≠ b := fun e => h.ne (by rw [e]; rfl)
    have hll : (A ++ [x]).length = A.length + 1 := by simp
    have H' : Hid (LAt w b T rest (.slice (some ⟨b1, off, none⟩) (A.length + 1) cap) (A ++ [x])) := by have := H.out; rw [hll] at this; exact this
    rw [hll] at c0 hn
    obtain ⟨an, han⟩ : ∃ an, A.length = an := ⟨_, rfl⟩
    have HAN : Hid (A.length = an) := han
    rw [han] at k0 k1 k2 k3 k4 k5 c0 hn
    have hmx : an + 1 ≤ 9223372036854775807 := by unfold maxLen at hx; omega
    clear h hc hat hll han H
    go_enter Try.func6, Try.ntmps6
    go_wp2
    all_goals go_region
    all_goals go_wp2
    all_goals (try simp only [Exit.inBlock, Exit.then])
    all_goals
      have e1 : lsOr (A ++ [x]) = x := by simp [lsOr]
      have e2 : (A ++ [x]).isEmpty = false := by simp
      have e3 : (A ++ [x]).dropLast = A := by simp
      rw [e1, e2, e3]
      have h1 := (H'.out.set (v' := .slice (some ⟨b1, off, none⟩) A.length cap) (L' := A) H'.out.row.init (by simp [Value.ownBlock, hne]))
      rw [HAN.out] at h1
      refine bodyPost_ret (v := .tuple #[x.val, .bool true]) ?_ rfl ⟨rfl, _, (h1.below (below_alloc_ (below_alloc_ (Below.refl _ _) _) _)).kept rfl (fun _ _ => rfl), rfl, ?_⟩
      · rw [results_cell_tmp rfl]
        go_simp
      · repeat' (first | with_reducible exact Ot.refl _ _ | with_reducible refine Ot.drew ?_ | with_reducible refine Ot.setCell ?_ (by simp) _ | with_reducible refine Ot.alloc ?_ _)
theorem nilSome (a : Addr) (n c : Nat) (w : World) : (binOp .eql 23 (.slice (some a) n c) (.slice none 0 0)).run Try.prog w = .ok (.bool false) w := by kernel_rfl
theorem nilNone (w : World) : (binOp .eql 23 (.slice none 0 0) (.slice none 0 0)).run Try.prog w = .ok (.bool true) w := by kernel_rfl
/-- A copy of packets. -/
theorem clone_any {v : Value} {L : List Hd} (w : World) (h : Hs w v L) (hn : L.length ≤ 1000000) :
    Calls Try.prog 11 #[v] w fun e w' => ∃ u, e = .returned u ∧ Hs w' u L ∧ (∀ k, u.ownBlock = some k → w.heap.size ≤ k) ∧ Below w.heap.size w w' := by
  have H : Hid (Hs w v L) := h
  have hnS := nilSome
  have hnN := nilNone
  rcases h.form with ⟨rfl, h0, hx⟩ | ⟨b, off, cap, rfl, h1, h2, hlt, hc⟩
  · clear h
    go_enter Try.func11, Try.ntmps11
    go_wp2
    go_ret
    exact ⟨_, rfl, H.out, fun k hk => by simp [Value.ownBlock] at hk, Below.refl _ _⟩
  · have HC : Hid (∀ j u, (flt Hd.cs L)[j]? = some u → w.cell? ⟨b, off + j, none⟩ = some u) := hc
    clear h hc
    obtain ⟨i0, hi, hz0, hz1, hz2⟩ := info_parts infoHeld
    obtain ⟨q, hq⟩ : ∃ q, L.length = q := ⟨_, rfl⟩
    have HQ : Hid (L.length = q) := hq
    rw [hq] at hn h1 ⊢
    clear hq
    by_cases hq0 : q = 0
    · subst hq0
      go_enter Try.func11, Try.ntmps11
      go_wp2
      go_ret
      have hL : L = [] := List.eq_nil_of_length_eq_zero HQ.out
      refine ⟨.slice (some ⟨w.heap.size, 0, none⟩) 0 0, rfl, by rw [hL]; exact seg_empty (new_block_ rfl), fun k hk => ?_, below_alloc_ (Below.refl _ _) _⟩
      simp only [Value.ownBlock, Option.some.injEq] at hk
      omega
    · go_enter Try.func11, Try.ntmps11
      go_wp2_with (at_builtin; refine wpList_append_seg _ rfl (.tmp 5) (.tmp 6) 23 rfl 32 i0 _ 6 48 Try.underlying23 hi hz0 hz1 hz2 rfl (by decide) (.slice (some ⟨w.heap.size, 0, none⟩) 0 0) 0 [] rfl (seg_empty (new_block_ rfl)) ⟨b, off, none⟩ q cap (flt Hd.cs L) rfl (by rw [flt_length Hd.cs 6 Hd.len, HQ.out]) (fun j u hj => by rw [Addr.add_lit, World.cell?_alloc_lt _ _ _ (by exact hlt)]; exact HC.out j u hj) (flt_ones Hd.cs Hd.one L) (by omega) (by unfold maxLen; omega) (by omega) _ rfl ?_; intro g goff gcap w1 hs1 hg1 ha1 hl1)
      go_ret
      have hgl : w.heap.size ≤ g := by
        rcases ha1 with h | h
        · simp only [Value.ownBlock, Option.some.injEq] at h; omega
        · simp at h; omega
      refine ⟨.slice (some ⟨g, goff, none⟩) q gcap, by simp, ?_, fun k hk => ?_, ?_⟩
      · unfold Hs
        rw [HQ.out]
        simpa using hs1
      · simp only [Value.ownBlock, Option.some.injEq] at hk
        omega
      · exact below_grown_ (below_alloc_ (Below.refl _ _) _) hg1 (fun k e => by simp only [Value.ownBlock, Option.some.injEq] at e; omega)
theorem all_any {b : Nat} {T : TypeId} {rest : List Value} {v : Value} {L : List Hd} (w : World) (h : LAt w b T rest v L) (hn : L.length ≤ 1000000) :
    Calls Try.prog 8 #[.pointer (some ⟨b, 0, none⟩)] w fun e w' => ∃ u, e = .returned u ∧ Hs w' u L ∧ (∀ k, u.ownBlock = some k → w.heap.size ≤ k) ∧ Below w.heap.size w w' := by
  obtain ⟨c0, c1, f0, f1⟩ := h.cells
  have HC := clone_any w h.row hn
  clear h
  go_enter Try.func8, Try.ntmps8
  go_wp2_with (go_at_call 11; refine HC.mono ?_; rintro e w1 ⟨u, rfl, hu, hk, hb⟩)
  go_ret
  exact ⟨u, rfl, hu, hk, hb⟩
end Go.Proofs.Ytgiommaelipmhaa
