/-
  sketch.pairs: in new memory all pairs of a map, the most frequent first, of like ones by key; nothing that was there is otherwise. Conditions: block b is a map of ints.
-/
import Derived.Test.YtkmbnklfaaopaaaDoorSkP
namespace Go.Proofs.YtkmbnklfaaopaaaDoor
open Go.RowKit Go.Extern.Stop Go.Stop Go.Extern Go.Maps

theorem infoPair : (Tryd.prog.info? 57).map (fun i => (i.zero, i.size, i.bytes)) = some (some (.agg #[.int .i64 0, .int .i64 0]), 2, 16) := by kernel_rfl
theorem cell_new2 (w : World) (v0 v1 : Value) (t : TypeId) : ∀ j u, [v0, v1][j]? = some u → (w.alloc (.cells #[v0, v1] t)).cell? ((⟨w.heap.size, 0, none⟩ : Addr).add j) = some u := by
  intro j u h
  match j with
  | 0 => simp at h; subst h; simp [Addr.add]
  | 1 => simp at h; subst h; simp [Addr.add]
  | j + 2 => simp at h
theorem flatP_snoc (N : List (Int × Int)) (x c : Int) : flatP (N ++ [(x, c)]) = flatP N ++ [.int .i64 x, .int .i64 c] := by simp [flatP, enPair]
theorem filter_step {L N : List (Int × Int)} {lf : Int → Bool} (ha : Ap L) {x c : Int} (hx : lf x = true) (hm : (x, c) ∈ L) (hN : N.Perm (L.filter fun p => !lf p.1)) : (N ++ [(x, c)]).Perm (L.filter fun p => !(lf p.1 && !(p.1 == x))) := by
  refine perm_of_mem ?_ (ha.filter _).nodup fun q => ?_
  · rw [List.nodup_append]
    refine ⟨hN.nodup_iff.2 (ha.filter _).nodup, by simp, fun a h1 b h2 => ?_⟩
    rw [List.mem_singleton] at h2
    subst h2
    rintro rfl
    have := (List.mem_filter.1 (hN.subset h1)).2
    simp [hx] at this
  · rw [List.mem_append, List.mem_singleton, hN.mem_iff, List.mem_filter, List.mem_filter]
    by_cases e : q.1 = x
    · simp only [e, hx, Bool.not_true, Bool.false_eq_true, and_false, false_or, beq_self_eq_true, Bool.and_false, Bool.not_false, and_true]
      constructor
      · rintro rfl; exact hm
      · intro h; exact ha.eq h hm e
    · have h3 : ¬ q = (x, c) := fun h => e (by rw [h])
      simp [e, h3]
set_option maxRecDepth 20000 in
set_option maxHeartbeats 2000000 in
theorem pairs_any (b : Nat) (L : List (Int × Int)) (w : World) (h : MpI w b L) (hL : L.length ≤ 100000) :
    Calls Tryd.prog 22 #[.map (some b)] w fun e w' => (∃ x cap M, e = .returned (.slice x M.length cap) ∧ M.Perm L ∧ Srt M ∧ PrR w' x M) ∧ Below w.heap.size w w' := by
  have ha := h.ap
  have hbl := h.lt
  obtain ⟨l, hown, hp⟩ := h
  have HA : Hid (Ap L) := ha
  have HP : Hid (l.Perm (L.map enP)) := hp
  have HBL : Hid (b < w.heap.size) := hbl
  obtain ⟨i0, hi, hz0, hz1, hz2⟩ := info_parts infoPair
  clear ha hp hbl
  go_enter Tryd.func22, Tryd.ntmps22
  go_wp2_with (first
    | (at_range; refine wpList_range_own _ rfl _ 23 rfl 3 3 keyI Tryd.underlying23 _ b _ _ rfl hown ?_; intro w0 hrg0 hg0 hs0)
    | go_in)
  go_frame
  go_loopw [3, 4] (fun o _ wr => ∃ (left : Lit → Bool) (cnt : Nat) (N : List (Int × Int)), wr.ranges Tryd.prog 3 (plainElem Tryd.prog 3) b w.heap.size L.length (.map l) left cnt ∧ wr.ownsRow (w.heap.size + 1) 57 2 o N.length (flatP N) ∧ N.Perm (L.filter fun p => !left (.int .i64 p.1)) ∧ Below w.heap.size w wr)
    (fun _ _ wr => wr.rangeLeft b w.heap.size)
  case atStart =>
    refine ⟨_, _, [], hrg0, World.ownsRow_nil _ _ _ _, ?_, ⟨hg0.os, hg0.tape, hg0.output, hg0.size, fun i hi => hg0.block i hi (by simp)⟩⟩
    rw [List.filter_eq_nil_iff.2]
    intro p hpm
    have : Maps.has (.map l : DataW Unit) (.int .i64 p.1) = true := List.any_eq_true.2 ⟨enP p, HP.out.symm.subset (List.mem_map.2 ⟨p, hpm, rfl⟩), WideAt.sameKey_self (isKeyJ p.1)⟩
    simp [this]
  case round =>
    obtain ⟨left, cnt, N, hrg, hor, hN, hbel⟩ := hrel
    have HN : Hid (N.Perm (L.filter fun p => !left (.int .i64 p.1))) := hN
    have HO : Hid (wr.ownsRow (w.heap.size + 1) 57 2 u3 N.length (flatP N)) := hor
    have HB : Hid (Below w.heap.size w wr) := hbel
    have HR : Hid (wr.ranges Tryd.prog 3 (plainElem Tryd.prog 3) b w.heap.size L.length (.map l) left cnt) := hrg
    clear hN hor hbel
    go_wp2_with (first
      | (at_next; refine wpList_next_ranges_ii _ rfl _ rfl 3 3 .i64 .i64 keyI Tryd.underlying3 Tryd.underlying3 b w.heap.size L.length _ _ _ rfl hrg ?_ ?_)
      | go_in)
    · intro _ hl0
      have hNL : N.Perm L := by
        have := HN.out
        rw [List.filter_eq_self.2 (fun p _ => by simp [hl0])] at this
        exact this
      have HNL : Hid (N.Perm L) := hNL
      clear hNL hrg HR HN hl0
      rcases HO.out.2 with ⟨rfl, hn0⟩ | ⟨g, cap, cur, rfl, hg, hh, hn, hx, hs, ht⟩
      · obtain rfl : N = [] := List.eq_nil_of_length_eq_zero hn0
        have hnone := fun W => AnyF.slices_SortFunc_none (P := Tryd.prog) (ρ := Tryd.sortPair_ren) { Tryd.sortPair with } none 0 (.func (.func 26) #[] #[]) W
        change ∀ W, Calls Tryd.prog 25 _ _ _ at hnone
        go_wp2_with fail
        refine (hnone _).mono ?_
        rintro e w' ⟨rfl, rfl⟩
        go_wp2
        go_ret
        exact ⟨⟨none, 0, [], rfl, HNL.out, List.Pairwise.nil, Or.inl rfl⟩, HB.out⟩
      · obtain ⟨hH, hgl⟩ := holds_of_owns HO.out
        have hcon := sort_any g cap N wr hH hgl (by have := HNL.out.length_eq; omega)
        have HG : Hid (w.heap.size + 1 ≤ g) := hg
        have HCON : Hid (Calls Tryd.prog 25 #[.slice (some ⟨g, 0, none⟩) N.length cap, .func (.func 26) #[] #[]] wr fun e w' => e = .returned (.tuple #[]) ∧ ∃ M, M.Perm N ∧ Srt M ∧ PrR w' (some ⟨g, 0, none⟩) M ∧ wr.grownBy w' (some g)) := hcon
        clear hcon hH hgl hg hh hn hx hs ht
        go_wp2_with fail
        refine HCON.out.mono ?_
        rintro e w' ⟨rfl, M, hM1, hM2, hM3, hgr⟩
        have HM : Hid (M.Perm N ∧ Srt M ∧ PrR w' (some ⟨g, 0, none⟩) M) := ⟨hM1, hM2, hM3⟩
        have HBW : Hid (Below w.heap.size w w') := HB.out.grown hgr HB.out.size (fun j e => by cases e; have := HG.out; omega)
        rw [← hM1.length_eq]
        clear hM1 hM2 hM3 hgr
        go_wp2
        go_ret
        exact ⟨⟨_, cap, M, rfl, HM.out.1.trans HNL.out, HM.out.2.1, HM.out.2.2⟩, HBW.out⟩
    · intro x c w1 cnt1 hwx hwc hlx hat hrg1 hlt hg1 hs1 hen
      have hmL : (x, c) ∈ L := by
        have hl := look_of (pw_of hrg1.owns) HP.out x
        rw [hat] at hl
        have hc : c = vl L x := by simpa using hl
        rcases vl_cases L x with ⟨v, hm, hv⟩ | ⟨hno, _⟩
        · rw [hc, hv]; exact hm
        · exfalso
          have h1 := hat .nil
          rw [WideAt.atKey_none] at h1
          · cases h1
          · intro p hp e
            obtain ⟨q, hq, rfl⟩ := List.mem_map.1 (HP.out.subset hp)
            exact hno q hq (by simpa [enP] using e)
      have HNS : Hid ((N ++ [(x, c)]).Perm (L.filter fun p => !(left (.int .i64 p.1) && !(Lit.int .i64 p.1).sameKey (.int .i64 x)))) := by
        show List.Perm _ _
        simp only [sameKey_beq]
        exact filter_step (lf := fun z => left (.int .i64 z)) HA.out hlx hmL HN.out
      have hlen : N.length ≤ 100000 := by
        have h1 := HN.out.length_eq
        have h2 := List.length_filter_le (fun p : Int × Int => !left (.int .i64 p.1)) L
        omega
      have HO1 : Hid (w1.ownsRow (w.heap.size + 1) 57 2 u3 N.length (flatP N)) := HO.out.kept hg1 (by
        cases hv : u3.ownBlock with
        | none => exact Or.inl rfl
        | some k => exact Or.inr (fun e => by
            cases e
            have := (HO.out.lt _ hv).1
            omega))
      have HB1 : Hid (Below w.heap.size w w1) := HB.out.grown hg1 HB.out.size (fun j e => by cases e; exact Nat.le_refl _)
      have HRG1 : Hid (w1.ranges Tryd.prog 3 (plainElem Tryd.prog 3) b w.heap.size L.length (.map l) (fun z => left z && !z.sameKey (.int .i64 x)) cnt1) := hrg1
      have HLE : Hid (wr.rangeLeft b w.heap.size = cnt) := hrg.left_eq
      have q1 : N.length + 1 ≤ maxLen := by unfold maxLen; omega
      have q2 : (N.length + 1) * 16 ≤ 140737488355328 := by omega
      have q3 : ∀ o, w.heap.size + 1 ≤ (w1.alloc o).heap.size := fun o => by simp; have := HB1.out.size; omega
      clear hrg hrg1 hat hg1 hs1 HR HN HO HB hmL
      go_wp2_with (at_builtin; refine wpList_append_own _ rfl _ _ 27 rfl (w.heap.size + 1) 57 i0 (.agg #[.int .i64 0, .int .i64 0]) 2 16 Tryd.underlying27 hi hz0 hz1 hz2 rfl (by decide) _ _ _ rfl (HO1.out.alloc _) ⟨w1.heap.size, 0, none⟩ 1 1 [.int .i64 x, .int .i64 c] rfl rfl (cell_new2 _ _ _ _) (by simp [Value.oneCell']) q1 q2 (q3 _) ?_; intro v' w4 hown4 hgrow4 _)
      have hne : ∀ k, k < w.heap.size + 1 → some k ≠ u3.ownBlock := fun k hk e => by
        have := (HO1.out.lt _ e.symm).1
        omega
      have hrg4 := (HRG1.out.alloc (.cells #[.int .i64 x, .int .i64 c] 57)).kept hgrow4 (hne b (by have := HBL.out; omega)) (hne _ (by omega))
      go_roundw
      case rel =>
        refine ⟨_, cnt1, N ++ [(x, c)], hrg4, ?_, HNS.out, (HB1.out.alloc HB1.out.size _).grown hgrow4 (by simp; have := HB1.out.size; omega) (fun j e => by have := (HO1.out.lt j e).1; omega)⟩
        rw [flatP_snoc, List.length_append]
        exact hown4
      case measure => rw [hrg4.left_eq, HLE.out]; omega
end Go.Proofs.YtkmbnklfaaopaaaDoor
