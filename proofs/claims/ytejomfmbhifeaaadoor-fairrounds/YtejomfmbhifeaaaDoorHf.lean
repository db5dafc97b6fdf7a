/-
  fair.Hashed's cut. Conditions: few packets, none of them long; some wait.
-/
import Derived.Test.YtejomfmbhifeaaaDoorHe
import Derived.Deep.DeepCutAuto
namespace Go.Proofs.YtejomfmbhifeaaaDoor
open Go.RowKit Go.Extern.Stop Go.Stop Go.Extern

/-- The longest of the first n lists (of like ones the first). -/
def longK (fl : Nat → List Hd) : Nat → Nat
  | 0 => 0
  | n + 1 => if (fl (longK fl n)).length < (fl n).length then n else longK fl n
theorem longK_lt (fl : Nat → List Hd) : ∀ n, n ≤ 64 → longK fl n < 64 := by
  intro n
  induction n with
  | zero => intro _; exact (by decide : (0 : Nat) < 64)
  | succ n ih =>
    intro h
    simp only [longK]
    split
    · omega
    · exact ih (by omega)
theorem longK_max (fl : Nat → List Hd) : ∀ n i, i < n → (fl i).length ≤ (fl (longK fl n)).length := by
  intro n
  induction n with
  | zero => intro i h; omega
  | succ n ih =>
    intro i hi
    simp only [longK]
    split
    · by_cases e : i = n
      · subst e; exact Nat.le_refl _
      · have := ih i (by omega); omega
    · by_cases e : i = n
      · subst e; omega
      · exact ih i (by omega)
/-- The last packet of the longest list is thrown away. -/
def cutH (s : HaS) : HaS × Hd := ({ fl := updF s.fl (longK s.fl 64) (s.fl (longK s.fl 64)).dropLast, tn := if (s.fl (longK s.fl 64)).dropLast.isEmpty then s.tn.erase (longK s.fl 64 : Int) else s.tn }, lsOr (s.fl (longK s.fl 64)))
theorem split_erase {l : List Int} {m : Int} (h : m ∈ l) (hn : l.Nodup) : ∃ A B, l = A ++ m :: B ∧ m ∉ A ∧ m ∉ B ∧ l.erase m = A ++ B := by
  obtain ⟨A, B, hA⟩ := List.append_of_mem h
  have hn' := hn
  rw [hA, List.nodup_append, List.nodup_cons] at hn'
  have hmA : m ∉ A := fun h1 => hn'.2.2 m h1 m (by simp) rfl
  refine ⟨A, B, hA, hmA, hn'.2.1.1, ?_⟩
  rw [hA, List.erase_append_right _ hmA, List.erase_cons_head]
set_option maxRecDepth 20000 in
set_option maxHeartbeats 4000000 in
theorem hcut_any {b : Nat} {p : HaC} {C : Nat → Value} {vs : Nat → Value} {tv : Value} {s : HaS} (w : World) (h : HaP w b p C vs tv s) (hne : s.fl (longK s.fl 64) ≠ []) (hin : (longK s.fl 64 : Int) ∈ s.tn) (hnd : s.tn.Nodup) (hl : s.tn.length ≤ 1000) (hF : ∀ f, f < 64 → Fit (s.fl f)) :
    Calls Tryd.prog 125 #[.pointer (some ⟨b, 0, none⟩)] w fun e w' => e = .returned (cutH s).2.val ∧ ∃ C' vs' tv', HaO w b p vs tv (cutH s).1 w' C' vs' tv' := by
  have H : Hid (HaP w b p C vs tv s) := h
  have hb := h.blk.lt
  have hV := Hd.val_eq
  have HLW : Hid (∀ k, HaF b vs tv k → k < w.heap.size) := fun k hk => h.low hk
  have hnr0 : ¬ HaF b vs tv w.heap.size := fun hk => by have := h.low hk; omega
  have HNR0 : Hid (¬ HaF b vs tv w.heap.size) := hnr0
  clear h hnr0
  obtain ⟨W0, hW0⟩ : ∃ W0, w.alloc (.cells #[.int .i64 0, .int .i64 0, .int .i64 0, .int .i64 0, .int .i64 0, .int .i64 0] 124) = W0 := ⟨_, rfl⟩
  have HP0 : Hid (HaO w b p vs tv s W0 C vs tv) := by
    refine ⟨?_, fun _ hk => Or.inl hk, ?_⟩
    · rw [← hW0]; exact H.out.al _
    · rw [← hW0]; exact Ot.alloc (Ot.refl _ _) _
  have hs0 : W0.heap.size = w.heap.size + 1 := by rw [← hW0]; simp
  have HZ0 : Hid (W0.heap[w.heap.size]? = some (.cells #[.int .i64 0, .int .i64 0, .int .i64 0, .int .i64 0, .int .i64 0, .int .i64 0] 124 (0, 0))) := by show _ = _; rw [← hW0]; exact new_block w _
  have hb0 : b < W0.heap.size := by omega
  have hw0 : w.heap.size < W0.heap.size := by omega
  go_enter Tryd.func125, Tryd.ntmps125
  go_wp2
  clear hW0
  go_loopw [3, 7] (fun lv iv wr => ∃ i n' : Nat, i ≤ 64 ∧ iv = .int .i64 i ∧ lv = .int .i64 (longK s.fl i : Nat) ∧ wr = W0.drewN n') (fun _ i _ => 64 - (intOf i).toNat)
  case atStart => exact ⟨0, 0, by decide, rfl, rfl, rfl⟩
  case round =>
    obtain ⟨i, n1, hi64, rfl, rfl, rfl⟩ := hrel
    have hll := longK_lt s.fl i hi64
    by_cases hi : i < 64
    · have HK : Hid (longK s.fl (i + 1) = if (s.fl (longK s.fl i)).length < (s.fl i).length then i else longK s.fl i) := rfl
      have H1 : Hid (∀ n, Calls Tryd.prog 71 #[.pointer (some ⟨b, 3 + i * 2, none⟩)] (W0.drewN n) fun e w' => e = .returned (.int .i64 (s.fl i).length) ∧ w' = W0.drewN n) := fun n => lenO_any _ (LO.kept (HP0.out.pos.list hi) rfl (fun _ _ => rfl))
      have H2 : Hid (∀ n, Calls Tryd.prog 71 #[.pointer (some ⟨b, 3 + longK s.fl i * 2, none⟩)] (W0.drewN n) fun e w' => e = .returned (.int .i64 (s.fl (longK s.fl i)).length) ∧ w' = W0.drewN n) := fun n => lenO_any _ (LO.kept (HP0.out.pos.list hll) rfl (fun _ _ => rfl))
      generalize longK s.fl i = l at *
      generalize (s.fl i).length = a at *
      generalize (s.fl l).length = c at *
      by_cases hac : c < a
      · have o1 : decide ((c : Int) < (a : Int)) = true := by simp; omega
        rw [if_pos hac] at HK
        have o2 : decide (c < a) = true := decide_eq_true hac
        have o3 : (c : Int) < (a : Int) := by omega
        go_wp2
        go_quiet ((go_at_call 71; (first | with_reducible refine (H1.out _).mono ?_ | with_reducible refine (H2.out _).mono ?_); rintro e w' ⟨rfl, rfl⟩; exact ⟨rfl, _, rfl⟩))
        go_wp2
        go_roundw
        case rel => exact ⟨i + 1, _, by omega, by go_num, by rw [HK.out], by first | rfl | trivial⟩
        case measure => simp [intOf]; omega
      · have o1 : decide ((c : Int) < (a : Int)) = false := by simp; omega
        rw [if_neg hac] at HK
        have o2 : decide (c < a) = false := decide_eq_false hac
        have o3 : ¬ (c : Int) < (a : Int) := by omega
        go_wp2
        go_quiet ((go_at_call 71; (first | with_reducible refine (H1.out _).mono ?_ | with_reducible refine (H2.out _).mono ?_); rintro e w' ⟨rfl, rfl⟩; exact ⟨rfl, _, rfl⟩))
        go_wp2
        go_roundw
        case rel => exact ⟨i + 1, _, by omega, by go_num, by rw [HK.out], by first | rfl | trivial⟩
        case measure => simp [intOf]; omega
    · obtain rfl : i = 64 := by omega
      have hKlt := longK_lt s.fl 64 (by decide)
      have hFK := hF _ hKlt
      have HLA := lastO_any (W0.drewN n1) (LO.kept (HP0.out.pos.list hKlt) rfl (fun _ _ => rfl)) hFK
      obtain ⟨P, R, hPR, hmP, hmR, her⟩ := split_erase hin hnd
      have HT : Hid (cutH s = ({ fl := updF s.fl (longK s.fl 64) (s.fl (longK s.fl 64)).dropLast, tn := if (s.fl (longK s.fl 64)).dropLast.isEmpty then P ++ R else s.tn }, lsOr (s.fl (longK s.fl 64)))) := by show _ = _; unfold cutH; rw [her]
      have HPR : Hid (s.tn = P ++ (longK s.fl 64 : Int) :: R) := hPR
      have hlP : (P ++ (longK s.fl 64 : Int) :: R).length ≤ 1000 := by rw [← hPR]; exact hl
      have hem : (!(s.fl (longK s.fl 64)).isEmpty) = true := by
        cases h : s.fl (longK s.fl 64) with
        | nil => exact absurd h hne
        | cons _ _ => rfl
      rw [hem] at HLA
      clear hem hPR her hin hnd hl hne hi hll hFK hi64 hF
      generalize longK s.fl 64 = f at *
      have hf : f < 64 := hKlt
      obtain ⟨x, hx⟩ : ∃ x, lsOr (s.fl f) = x := ⟨_, rfl⟩
      obtain ⟨L, hL⟩ : ∃ L, (s.fl f).dropLast = L := ⟨_, rfl⟩
      rw [hx, hL] at HLA HT
      clear hx hL
      go_wp2_with (go_at_call 126; fail)
      refine HLA.mono ?_
      rintro e w2 ⟨rfl, v2, hl2, hk2, ho2⟩
      have hR2 : HaO w b p vs tv { s with fl := updF s.fl f L } w2 (updL C (3 + f * 2) v2 L) (updF vs f v2) tv := HP0.out.trans (hao_listed HP0.out.pos hf hl2 (fun k hk => Or.inl (by rw [← hk2]; exact hk)) ((show Ot (· = b) W0 w2 from ⟨ho2.os, ho2.tape, ho2.output, ho2.size, ho2.block⟩).mono (fun k _ e => Or.inl e)))
      have hz2 : w2.heap[w.heap.size]? = _ := (ho2.block _ hw0 (by omega)).trans HZ0.out
      have hnr2 : ¬ HaF b (updF vs f v2) tv w.heap.size := by
        intro hk
        rcases hk with h | ⟨g, hg, hv⟩ | h
        · omega
        · by_cases e : g = f
          · subst e; rw [updF_same, hk2] at hv; exact HNR0.out (Or.inr (Or.inl ⟨g, hg, hv⟩))
          · rw [updF_ne e] at hv; exact HNR0.out (Or.inr (Or.inl ⟨g, hg, hv⟩))
        · exact HNR0.out (Or.inr (Or.inr h))
      have HNR2 : Hid (¬ HaF b (updF vs f v2) tv w.heap.size) := hnr2
      obtain ⟨X, hX⟩ : ∃ X, w2.heap.size = X := ⟨_, rfl⟩
      have hwX : w.heap.size < X := by rw [← hX]; exact lt_of_block hz2
      obtain ⟨W3, hW3⟩ : ∃ W3, w2.alloc (.cells #[.int .i64 x.a, .int .i64 x.l, .int .i64 x.f, .int .i64 x.b, .int .i64 x.m, .int .i64 x.n] 124) = W3 := ⟨_, rfl⟩
      have HR3 : Hid (HaO w b p vs tv { s with fl := updF s.fl f L } W3 (updL C (3 + f * 2) v2 L) (updF vs f v2) tv) := by
        refine ⟨?_, hR2.own, ?_⟩
        · rw [← hW3]; exact hR2.pos.al _
        · rw [← hW3]; exact hR2.ot.alloc _
      have HZ3 : Hid (W3.heap[w.heap.size]? = some (.cells #[.int .i64 0, .int .i64 0, .int .i64 0, .int .i64 0, .int .i64 0, .int .i64 0] 124 (0, 0))) := by show _ = _; rw [← hW3]; exact (Below.heap_alloc _ _ _ (by omega)).trans hz2
      have HX3 : Hid (W3.heap[X]? = some (.cells #[.int .i64 x.a, .int .i64 x.l, .int .i64 x.f, .int .i64 x.b, .int .i64 x.m, .int .i64 x.n] 124 (0, 0))) := by show _ = _; rw [← hW3]; exact new_block_ hX.symm
      have hnX2 : ¬ HaF b (updF vs f v2) tv X := fun hk => by have := hR2.pos.low hk; omega
      have HNX2 : Hid (¬ HaF b (updF vs f v2) tv X) := hnX2
      have HLN := lenO_any W3 (HR3.out.pos.list hf)
      simp only [updF_same] at HLN
      have HTO : Hid (TO W3 b 132 119 (updL C (3 + f * 2) v2 L) 131 tv (P ++ (f : Int) :: R)) := by
        have := HR3.out.pos.turns
        simp only [HPR.out] at this
        exact this
      have hb3 := HR3.out.pos.blk.lt
      have hw3 := lt_of_block HZ3.out
      have hx3 := lt_of_block HX3.out
      have HEND : Hid (∀ (s' : HaS) (w4 : World) (C4 : Nat → Value) (vs4 : Nat → Value) (tv4 : Value), HaO W3 b p (updF vs f v2) tv s' w4 C4 vs4 tv4 → w4.heap[w.heap.size]? = some (.cells #[.int .i64 0, .int .i64 0, .int .i64 0, .int .i64 0, .int .i64 0, .int .i64 0] 124 (0, 0)) ∧ w4.heap[X]? = some (.cells #[.int .i64 x.a, .int .i64 x.l, .int .i64 x.f, .int .i64 x.b, .int .i64 x.m, .int .i64 x.n] 124 (0, 0)) ∧ ∀ (a0 a1 a2 a3 a4 a5 : Value), ∃ C' vs' tv', HaO w b p vs tv s' ((((((w4.setCell ⟨w.heap.size, 0, none⟩ a0).setCell ⟨w.heap.size, 1, none⟩ a1).setCell ⟨w.heap.size, 2, none⟩ a2).setCell ⟨w.heap.size, 3, none⟩ a3).setCell ⟨w.heap.size, 4, none⟩ a4).setCell ⟨w.heap.size, 5, none⟩ a5) C' vs' tv') := by
        intro s' w4 C4 vs4 tv4 h1
        have h2 := HR3.out.trans h1
        refine ⟨(h1.ot.block _ hw3 HNR2.out).trans HZ3.out, (h1.ot.block _ hx3 HNX2.out).trans HX3.out, fun a0 a1 a2 a3 a4 a5 => ⟨_, _, _, hao_six h2 (fun hk => ?_) (Nat.le_refl _) _ _ _ _ _ _⟩⟩
        rcases h1.own _ hk with h | h
        · exact HNR2.out h
        · omega
      clear hR2 hl2 hk2 ho2 hz2 hnr2 hnX2 HLA
      have hxn : ¬ w.heap.size = X := by omega
      have hxn2 : ¬ X = w.heap.size := by omega
      go_wp2_with (go_at_call 71; fail)
      refine HLN.mono ?_
      rintro e w4 ⟨rfl, hw4⟩
      subst hw4
      clear hW3 HLN hX
      cases L with
      | nil =>
        have HLV := leave_any P R (f : Int) w4 HTO.out hmP hmR hlP
        go_wp2_with (go_at_call 111; fail)
        refine HLV.mono ?_
        rintro e w5 ⟨rfl, tv5, hp5⟩
        obtain ⟨hz5, hx5, hend⟩ := HEND.out _ w5 _ _ _ (hao_turned HR3.out.pos hp5)
        obtain ⟨⟨z0, z1, z2, z3, z4, z5⟩, y0, y1, y2, y3, y4, y5⟩ := six hz5
        obtain ⟨⟨r0, r1, r2, r3, r4, r5⟩, t0, t1, t2, t3, t4, t5⟩ := six hx5
        have hw5 := lt_of_block hz5
        have hX5 := lt_of_block hx5
        go_wp2
        (try simp only [Exit.inBlock, Exit.then])
        rw [HT.out]
        exact bodyPost_ret (v := x.val) (ret_held1 rfl rfl (six_set hz5 _ _ _ _ _ _)) rfl ⟨rfl, hend _ _ _ _ _ _⟩
      | cons y L' =>
        have hne2 : (((L'.length : Int) + 1) == 0) = false := by simp; omega
        obtain ⟨hz5, hx5, hend⟩ := HEND.out _ w4 _ _ _ (hao_refl HR3.out.pos)
        obtain ⟨⟨z0, z1, z2, z3, z4, z5⟩, y0, y1, y2, y3, y4, y5⟩ := six hz5
        obtain ⟨⟨r0, r1, r2, r3, r4, r5⟩, t0, t1, t2, t3, t4, t5⟩ := six hx5
        go_wp2
        (try simp only [Exit.inBlock, Exit.then])
        rw [HT.out]
        exact bodyPost_ret (v := x.val) (ret_held1 rfl rfl (six_set hz5 _ _ _ _ _ _)) rfl ⟨rfl, hend _ _ _ _ _ _⟩
end Go.Proofs.YtejomfmbhifeaaaDoor
