/-
  queue.List's Last, of a list that lies at a cell of a block; fair.Hashed's state and Where. Conditions: few packets, none of them long.
-/
import Derived.Test.YtejomfmbhifeaaaDoorFj
namespace Go.Proofs.YtejomfmbhifeaaaDoor
open Go.RowKit Go.Extern.Stop Go.Stop Go.Extern

theorem snoc_or (L : List Hd) : L = [] ∨ ∃ A x, L = A ++ [x] := by
  rcases List.eq_nil_or_concat L with h | ⟨A, x, h⟩
  · exact Or.inl h
  · exact Or.inr ⟨A, x, by rw [h]; simp⟩
/-- The last one, or nothing. -/
def lsOr (L : List Hd) : Hd := L.getLastD hd0
theorem Hs.init {w : World} {b off cap : Nat} {A : List Hd} {x : Hd} (h : Hs w (.slice (some ⟨b, off, none⟩) (A.length + 1) cap) (A ++ [x])) : Hs w (.slice (some ⟨b, off, none⟩) A.length cap) A := by
  have h' : Seg w 124 6 (.slice (some ⟨b, off, none⟩) (A.length + 1) cap) (A.length + 1) (flt Hd.cs (A ++ [x])) := by simpa [Hs] using h
  have := Seg.take h' (m := A.length) (by omega)
  rw [flt_take Hd.cs 6 Hd.len] at this
  unfold Hs
  simpa using this
set_option maxHeartbeats 1000000 in
theorem lastO_any {b n : Nat} {T : TypeId} {C : Nat → Value} {o : Nat} {v : Value} {L : List Hd} (w : World) (h : LO w b n T C o v L) (hF : Fit L) :
    Calls Tryd.prog 126 #[.pointer (some ⟨b, o, none⟩)] w fun e w' => e = .returned (.tuple #[(lsOr L).val, .bool (!L.isEmpty)]) ∧ ∃ v', LO w' b n T (updL C o v' L.dropLast) o v' L.dropLast ∧ v'.ownBlock = v.ownBlock ∧ Ot (· = b) w w' := by
  have H : Hid (LO w b n T C o v L) := h
  have hb := h.blk.lt
  obtain ⟨c0, c1, f0, f1⟩ := h.cells
  have hV := Hd.val_eq
  rcases snoc_or L with rfl | ⟨A, x, rfl⟩
  · obtain ⟨x, cap, rfl⟩ : ∃ x cap, v = .slice x 0 cap := by
      rcases h.row.form with ⟨rfl, h0, _⟩ | ⟨b, off, cap, rfl, _⟩
      · exact ⟨none, 0, rfl⟩
      · exact ⟨_, _, rfl⟩
    clear h
    go_enter Tryd.func126, Tryd.ntmps126
    go_wp2
    (try simp only [Exit.inBlock, Exit.then])
    refine bodyPost_ret (v := .tuple #[hd0.val, .bool false]) ?_ rfl ⟨rfl, _, H.out.same.below ?_, rfl, Ot.of_below ?_⟩
    · rw [results_cell_tmp rfl]
      go_simp
      exact ⟨rfl, rfl, rfl, rfl, rfl, rfl⟩
    all_goals repeat' (first | with_reducible exact Below.refl _ _ | with_reducible refine Below.setCell ?_ (by simp) _ | with_reducible refine below_alloc_ ?_ _)
  · obtain ⟨b1, off, cap, rfl, hn, hx, hlt, hc⟩ := h.row.some (by simp)
    have hat : ∀ j, j < 6 → (flt Hd.cs (A ++ [x]))[A.length * 6 + j]? = x.cs[j]? := fun j hj => flt_at Hd.cs 6 Hd.len (by simp) hj
    have k0 : w.cell? ⟨b1, off + A.length * 6, none⟩ = some (.int .i64 x.a) := hc _ _ (hat 0 (by omega))
    have k1 : w.cell? ⟨b1, off + A.length * 6 + 1, none⟩ = some (.int .i64 x.l) := hc _ _ (hat 1 (by omega))
    have k2 : w.cell? ⟨b1, off + A.length * 6 + 2, none⟩ = some (.int .i64 x.f) := hc _ _ (hat 2 (by omega))
    have k3 : w.cell? ⟨b1, off + A.length * 6 + 3, none⟩ = some (.int .i64 x.b) := hc _ _ (hat 3 (by omega))
    have k4 : w.cell? ⟨b1, off + A.length * 6 + 4, none⟩ = some (.int .i64 x.m) := hc _ _ (hat 4 (by omega))
    have k5 : w.cell? ⟨b1, off + A.length * 6 + 5, none⟩ = some (.int .i64 x.n) := hc _ _ (hat 5 (by omega))
    have hw : IntKind.i64.wrap (sumL (A ++ [x]) - x.l) = sumL A := by
      have h1 := Fit.sum hF.2
      have h4 := Fit.sum (L := A) (fun y hy => hF.2 y (by simp [hy]))
      have h3 := hF.1
      rw [IntKind.wrap_i64]
      rw [sumL_append] at h1 ⊢
      simp only [sumL, List.length_append, List.length_cons, List.length_nil] at h1 h3 ⊢
      omega
    have hne : b1 ≠ b := fun e => h.ne (by rw [e]; rfl)
    have hll : (A ++ [x]).length = A.length + 1 := by simp
    have H' : Hid (LO w b n T C o (.slice (some ⟨b1, off, none⟩) (A.length + 1) cap) (A ++ [x])) := by have := H.out; rw [hll] at this; exact this
    rw [hll] at c0 hn
    obtain ⟨an, han⟩ : ∃ an, A.length = an := ⟨_, rfl⟩
    have HAN : Hid (A.length = an) := han
    rw [han] at k0 k1 k2 k3 k4 k5 c0 hn
    have hmx : an + 1 ≤ 9223372036854775807 := by unfold maxLen at hx; omega
    clear h hc hat hll han H
    go_enter Tryd.func126, Tryd.ntmps126
    go_wp2
    all_goals go_region
    all_goals go_wp2
    all_goals (try simp only [Exit.inBlock, Exit.then])
    all_goals
      have e1 : lsOr (A ++ [x]) = x := by simp [lsOr]
      have e2 : (A ++ [x]).isEmpty = false := by simp
      have e3 : (A ++ [x]).dropLast = A := by simp
      rw [e1, e2, e3]
      have h1 := LO.set H'.out.blk H'.out.lt (v' := .slice (some ⟨b1, off, none⟩) A.length cap) (L' := A) H'.out.row.init (by simp [Value.ownBlock, hne])
      rw [HAN.out] at h1
      refine bodyPost_ret (v := .tuple #[x.val, .bool true]) ?_ rfl ⟨rfl, _, (h1.below (below_alloc_ (below_alloc_ (Below.refl _ _) _) _)).kept rfl (fun _ _ => rfl), rfl, ?_⟩
      · rw [results_cell_tmp rfl]
        go_simp
      · repeat' (first | with_reducible exact Ot.refl _ _ | with_reducible refine Ot.drew ?_ | with_reducible refine Ot.setCell ?_ (by simp) _ | with_reducible refine Ot.alloc ?_ _)
end Go.Proofs.YtejomfmbhifeaaaDoor
