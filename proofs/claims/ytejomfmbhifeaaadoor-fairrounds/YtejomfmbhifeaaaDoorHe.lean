/-
  fair.Hashed's Take. Conditions: few packets, none of them long.
-/
import Derived.Test.YtejomfmbhifeaaaDoorHc
namespace Go.Proofs.YtejomfmbhifeaaaDoor
open Go.RowKit Go.Extern.Stop Go.Stop Go.Extern

/-- What is taken: the first one of the list whose turn it is. -/
def takeH (s : HaS) : HaS × List Hd × Hd × Bool :=
  match s.tn with
  | [] => (s, [], hd0, false)
  | m :: B =>
    match s.fl m.toNat with
    | [] => (s, [], hd0, false)
    | x :: L => if m.toNat < 64 then ({ fl := updF s.fl m.toNat L, tn := if L.isEmpty then B else B ++ [m] }, [], x, true) else (s, [], hd0, false)
theorem hao_refl {w : World} {b : Nat} {p : HaC} {C : Nat → Value} {vs : Nat → Value} {tv : Value} {s : HaS} (h : HaP w b p C vs tv s) : HaO w b p vs tv s w C vs tv := ⟨h, fun _ hk => Or.inl hk, Ot.refl _ _⟩
/-- Six cells of a block that is not its own are written. -/
theorem hao_six {w w1 : World} {b : Nat} {p : HaC} {C1 : Nat → Value} {vs vs1 : Nat → Value} {tv tv1 : Value} {s : HaS} {r : Nat} (h : HaO w b p vs tv s w1 C1 vs1 tv1) (hr : ¬ HaF b vs1 tv1 r) (hr2 : w.heap.size ≤ r) (a0 a1 a2 a3 a4 a5 : Value) : HaO w b p vs tv s ((((((w1.setCell ⟨r, 0, none⟩ a0).setCell ⟨r, 1, none⟩ a1).setCell ⟨r, 2, none⟩ a2).setCell ⟨r, 3, none⟩ a3).setCell ⟨r, 4, none⟩ a4).setCell ⟨r, 5, none⟩ a5) C1 vs1 tv1 := by
  refine ⟨(((((h.pos.setO (a := ⟨r, 0, none⟩) hr _).setO (a := ⟨r, 1, none⟩) hr _).setO (a := ⟨r, 2, none⟩) hr _).setO (a := ⟨r, 3, none⟩) hr _).setO (a := ⟨r, 4, none⟩) hr _).setO (a := ⟨r, 5, none⟩) hr _, h.own, ?_⟩
  have hO := h.ot
  repeat' (first | with_reducible exact hO | with_reducible refine Ot.setCell ?_ (Or.inr hr2) _)
set_option maxRecDepth 20000 in
set_option maxHeartbeats 4000000 in
theorem htake_any {b : Nat} {p : HaC} {C : Nat → Value} {vs : Nat → Value} {tv : Value} {s : HaS} (now : Int) (w : World) (h : HaP w b p C vs tv s) (htn : ∀ m ∈ s.tn, 0 ≤ m ∧ m < 64 ∧ s.fl m.toNat ≠ []) (hnd : s.tn.Nodup) (hl : s.tn.length ≤ 1000) (hF : ∀ f, f < 64 → Fit (s.fl f)) :
    Calls Tryd.prog 123 #[.pointer (some ⟨b, 0, none⟩), .int .i64 now] w fun e w' => e = .returned (.tuple #[(takeH s).2.2.1.val, .slice none 0 0, .bool (takeH s).2.2.2]) ∧ ∃ C' vs' tv', HaO w b p vs tv (takeH s).1 w' C' vs' tv' := by
  have H : Hid (HaP w b p C vs tv s) := h
  have hb := h.blk.lt
  have hV := Hd.val_eq
  have HLW : Hid (∀ k, HaF b vs tv k → k < w.heap.size) := fun k hk => h.low hk
  have hnr0 : ¬ HaF b vs tv w.heap.size := fun hk => by have := h.low hk; omega
  have HNR0 : Hid (¬ HaF b vs tv w.heap.size) := hnr0
  clear h hnr0
  obtain ⟨W0, hW0⟩ : ∃ W0, w.alloc (.cells #[.int .i64 0, .int .i64 0, .int .i64 0, .int .i64 0, .int .i64 0, .int .i64 0] 124) = W0 := ⟨_, rfl⟩
  have HP0 : Hid (HaO w b p vs tv s W0 C vs tv) := by
    refine ⟨?_, fun _ hk => Or.inl hk, ?_⟩
    · rw [← hW0]; exact H.out.al _
    · rw [← hW0]; exact Ot.alloc (Ot.refl _ _) _
  have hs0 : W0.heap.size = w.heap.size + 1 := by rw [← hW0]; simp
  have HZ0 : Hid (W0.heap[w.heap.size]? = some (.cells #[.int .i64 0, .int .i64 0, .int .i64 0, .int .i64 0, .int .i64 0, .int .i64 0] 124 (0, 0))) := by show _ = _; rw [← hW0]; exact new_block w _
  obtain ⟨⟨z0, z1, z2, z3, z4, z5⟩, y0, y1, y2, y3, y4, y5⟩ := six HZ0.out
  obtain ⟨c131, f131⟩ := HP0.out.pos.row131
  have hb0 : b < W0.heap.size := by omega
  have hw0 : w.heap.size < W0.heap.size := by omega
  have HTF := tfirst_any W0 HP0.out.pos.trow
  obtain ⟨tx, tcap, htv⟩ := Ins.slice HP0.out.pos.trow
  obtain ⟨tl, htl⟩ : ∃ tl, s.tn.length = tl := ⟨_, rfl⟩
  rw [htl] at htv
  rw [htv] at HTF c131
  have HTV : Hid (tv = .slice tx tl tcap) := htv
  clear htv htl
  go_enter Tryd.func123, Tryd.ntmps123
  go_wp2_with (go_at_call 106; fail)
  refine HTF.mono ?_
  rintro e w1 ⟨rfl, hw1⟩
  subst hw1
  clear hW0 HTF
  cases ht : s.tn with
  | nil =>
    have HT : Hid (takeH s = (s, [], hd0, false)) := by show _ = _; unfold takeH; rw [ht]
    go_wp2
    (try simp only [Exit.inBlock, Exit.then])
    rw [HT.out]
    exact bodyPost_ret (v := .tuple #[hd0.val, .slice none 0 0, .bool false]) (ret_held2 rfl rfl (six_set HZ0.out _ _ _ _ _ _) rfl rfl) rfl ⟨rfl, C, vs, tv, hao_six HP0.out HNR0.out (Nat.le_refl _) _ _ _ _ _ _⟩
  | cons m B =>
    obtain ⟨k1, k2, k3⟩ := htn m (by rw [ht]; simp)
    obtain ⟨f, hf⟩ : ∃ f : Nat, m = f := ⟨m.toNat, by omega⟩
    subst hf
    have hf : f < 64 := by omega
    rw [Int.toNat_natCast] at k3
    obtain ⟨x, L, hL⟩ : ∃ x L, s.fl f = x :: L := by
      cases hL : s.fl f with
      | nil => exact absurd hL k3
      | cons x L => exact ⟨x, L, rfl⟩
    have hFf := hF f hf
    have hlo := HP0.out.pos.list hf
    rw [hL] at hFf hlo
    have HNX := nextO_any w1 hlo hFf
    rw [show hdOr (x :: L) = x from rfl] at HNX
    have HT : Hid (takeH s = ({ fl := updF s.fl f L, tn := if L.isEmpty then B else B ++ [(f : Int)] }, [], x, true)) := by show _ = _; unfold takeH; rw [ht]; simp only [Int.toNat_natCast, hL, if_pos hf]
    have HTN : Hid (s.tn = (f : Int) :: B) := ht
    have hB : (f : Int) ∉ B := by rw [ht, List.nodup_cons] at hnd; exact hnd.1
    have hlB : ([] ++ (f : Int) :: B).length ≤ 1000 := by rw [ht] at hl; exact hl
    clear ht hL k3 htn hnd hl hF hlo k1 k2
    go_wp2_with (go_at_call 78; fail)
    refine HNX.mono ?_
    rintro e w2 ⟨rfl, v2, hl2, hk2, ho2⟩
    have hR2 : HaO w b p vs tv { s with fl := updF s.fl f L } w2 (updL C (3 + f * 2) v2 L) (updF vs f v2) tv := HP0.out.trans (hao_listed HP0.out.pos hf hl2 (fun k hk => Or.inl (by rw [← hk2]; exact hk)) (ho2.mono (fun k _ e => Or.inl e)))
    have hz2 : w2.heap[w.heap.size]? = _ := (ho2.block _ hw0 (by omega)).trans HZ0.out
    have hnr2 : ¬ HaF b (updF vs f v2) tv w.heap.size := by
      intro hk
      rcases hk with h | ⟨g, hg, hv⟩ | h
      · omega
      · by_cases e : g = f
        · subst e; rw [updF_same, hk2] at hv; exact HNR0.out (Or.inr (Or.inl ⟨g, hg, hv⟩))
        · rw [updF_ne e] at hv; exact HNR0.out (Or.inr (Or.inl ⟨g, hg, hv⟩))
      · exact HNR0.out (Or.inr (Or.inr h))
    have HR2 : Hid (HaO w b p vs tv { s with fl := updF s.fl f L } w2 (updL C (3 + f * 2) v2 L) (updF vs f v2) tv) := hR2
    have HZ2 : Hid (w2.heap[w.heap.size]? = some (.cells #[.int .i64 0, .int .i64 0, .int .i64 0, .int .i64 0, .int .i64 0, .int .i64 0] 124 (0, 0))) := hz2
    have HNR2 : Hid (¬ HaF b (updF vs f v2) tv w.heap.size) := hnr2
    clear z0 z1 z2 z3 z4 z5 y0 y1 y2 y3 y4 y5 c131 f131 HNX hl2
    obtain ⟨⟨z0, z1, z2, z3, z4, z5⟩, y0, y1, y2, y3, y4, y5⟩ := six hz2
    have hb2 := hR2.pos.blk.lt
    have hw2' := lt_of_block hz2
    clear hR2 hz2 hnr2 ho2 hk2
    obtain ⟨W3, hW3⟩ : ∃ W3, ((((((w2.setCell ⟨w.heap.size, 0, none⟩ (.int .i64 x.a)).setCell ⟨w.heap.size, 1, none⟩ (.int .i64 x.l)).setCell ⟨w.heap.size, 2, none⟩ (.int .i64 x.f)).setCell ⟨w.heap.size, 3, none⟩ (.int .i64 x.b)).setCell ⟨w.heap.size, 4, none⟩ (.int .i64 x.m)).setCell ⟨w.heap.size, 5, none⟩ (.int .i64 x.n)) = W3 := ⟨_, rfl⟩
    have HR3 : Hid (HaO w b p vs tv { s with fl := updF s.fl f L } W3 (updL C (3 + f * 2) v2 L) (updF vs f v2) tv) := by show HaO _ _ _ _ _ _ _ _ _ _; rw [← hW3]; exact hao_six HR2.out HNR2.out (Nat.le_refl _) _ _ _ _ _ _
    have HZ3 : Hid (W3.heap[w.heap.size]? = some (.cells #[.int .i64 x.a, .int .i64 x.l, .int .i64 x.f, .int .i64 x.b, .int .i64 x.m, .int .i64 x.n] 124 (0, 0))) := by show _ = _; rw [← hW3]; exact six_set HZ2.out _ _ _ _ _ _
    have HLN := lenO_any W3 (HR3.out.pos.list hf)
    simp only [updF_same] at HLN
    have HTO : Hid (TO W3 b 132 119 (updL C (3 + f * 2) v2 L) 131 tv ([] ++ (f : Int) :: B)) := by
      have := HR3.out.pos.turns
      simp only [HTN.out] at this
      exact this
    have hb3 := HR3.out.pos.blk.lt
    have hw3 := lt_of_block HZ3.out
    have HEND : Hid (∀ (s' : HaS) (w4 : World) (tv4 : Value), TPost W3 b 132 119 (updL C (3 + f * 2) v2 L) 131 tv s'.tn w4 tv4 → s'.fl = updF s.fl f L → w4.heap[w.heap.size]? = some (.cells #[.int .i64 x.a, .int .i64 x.l, .int .i64 x.f, .int .i64 x.b, .int .i64 x.m, .int .i64 x.n] 124 (0, 0)) ∧ ∀ (a0 a1 a2 a3 a4 a5 : Value), ∃ C' vs' tv', HaO w b p vs tv s' ((((((w4.setCell ⟨w.heap.size, 0, none⟩ a0).setCell ⟨w.heap.size, 1, none⟩ a1).setCell ⟨w.heap.size, 2, none⟩ a2).setCell ⟨w.heap.size, 3, none⟩ a3).setCell ⟨w.heap.size, 4, none⟩ a4).setCell ⟨w.heap.size, 5, none⟩ a5) C' vs' tv') := by
      intro s' w4 tv4 hp4 hfl
      obtain ⟨fl', tn'⟩ := s'
      simp only at hfl
      subst hfl
      have h1 := hao_turned HR3.out.pos hp4
      have h2 := HR3.out.trans h1
      refine ⟨(hp4.ot.block _ hw3 (fun e => ?_)).trans HZ3.out, fun a0 a1 a2 a3 a4 a5 => ⟨_, _, _, hao_six h2 (fun hk => ?_) (Nat.le_refl _) _ _ _ _ _ _⟩⟩
      · rcases e with e | e
        · exact HNR2.out (Or.inl e)
        · exact HNR2.out (Or.inr (Or.inr e))
      · rcases h1.own _ hk with h | h
        · exact HNR2.out h
        · omega
    go_wp2_with (go_at_call 71; fail)
    refine HLN.mono ?_
    rintro e w4 ⟨rfl, hw4⟩
    subst hw4
    clear hW3 z0 z1 z2 z3 z4 z5 y0 y1 y2 y3 y4 y5 HLN
    cases L with
    | nil =>
      have HLV := leave_any [] B (f : Int) w4 HTO.out (by simp) hB hlB
      go_wp2_with (go_at_call 111; fail)
      refine HLV.mono ?_
      rintro e w5 ⟨rfl, tv5, hp5⟩
      obtain ⟨hz5, hend⟩ := HEND.out { fl := updF s.fl f [], tn := B } w5 tv5 hp5 rfl
      obtain ⟨⟨z0, z1, z2, z3, z4, z5⟩, y0, y1, y2, y3, y4, y5⟩ := six hz5
      have hw5 := lt_of_block hz5
      go_wp2
      (try simp only [Exit.inBlock, Exit.then])
      rw [HT.out]
      exact bodyPost_ret (v := .tuple #[x.val, .slice none 0 0, .bool true]) (ret_held2 rfl rfl (six_set hz5 _ _ _ _ _ _) rfl rfl) rfl ⟨rfl, hend _ _ _ _ _ _⟩
    | cons y L' =>
      have HLV := pass_any [] B (f : Int) w4 HTO.out (by simp) hB hlB
      have hne : (((L'.length : Int) + 1) == 0) = false := by simp; omega
      go_wp2_with (go_at_call 109; fail)
      refine HLV.mono ?_
      rintro e w5 ⟨rfl, tv5, hp5⟩
      obtain ⟨hz5, hend⟩ := HEND.out { fl := updF s.fl f (y :: L'), tn := B ++ [(f : Int)] } w5 tv5 hp5 rfl
      obtain ⟨⟨z0, z1, z2, z3, z4, z5⟩, y0, y1, y2, y3, y4, y5⟩ := six hz5
      have hw5 := lt_of_block hz5
      go_wp2
      (try simp only [Exit.inBlock, Exit.then])
      rw [HT.out]
      exact bodyPost_ret (v := .tuple #[x.val, .slice none 0 0, .bool true]) (ret_held2 rfl rfl (six_set hz5 _ _ _ _ _ _) rfl rfl) rfl ⟨rfl, hend _ _ _ _ _ _⟩
end Go.Proofs.YtejomfmbhifeaaaDoor
