/-
  fair.Hashed's Len, Bytes and When; NewHashed. Conditions: few packets, none of them long.
  fair.Hashed's Take. Conditions: few packets, none of them long.
  fair.Hashed's cut. Conditions: few packets, none of them long; some wait.
  fair.Hashed's Put. Conditions: few packets, none of them long; the lists and the turns agree.
-/
import Derived.Test.YtfakjedolecdcaaGreatDoorU29
import Derived.Deep.DeepCutAuto
namespace Go.Proofs.YtfakjedolecdcaaGreatDoor
open Go.RowKit Go.Extern.Stop Go.Stop Go.Extern

theorem slice64 (b : Nat) (w : World) : (Instr.sliceAt 155 (.pointer (some ⟨b, 3, none⟩)) none none none).run Tryz.prog w = .ok (.slice (some ⟨b, 3, none⟩) 64 64) w := by kernel_rfl
theorem hlen_any {b : Nat} {p : HaC} {C : Nat → Value} {vs : Nat → Value} {tv : Value} {s : HaS} (w : World) (h : HaP w b p C vs tv s) (hF : Fit (allF s.fl 64)) :
    Calls Tryz.prog 161 #[.pointer (some ⟨b, 0, none⟩)] w fun e w' => e = .returned (.int .i64 (allF s.fl 64).length) ∧ w' = w := by
  have HQ := packs_any (o := 3) (n := 64) w (fun i hi => h.list hi) (by decide) hF
  have hsl := slice64 b
  have hb := h.blk.lt
  clear h
  go_enter Tryz.func161, Tryz.ntmps161
  go_wp2_with (go_at_call 166; refine HQ.mono ?_; rintro e w2 ⟨rfl, hw2⟩; subst hw2)
  go_ret
  exact ⟨rfl, rfl⟩
theorem hbts_any {b : Nat} {p : HaC} {C : Nat → Value} {vs : Nat → Value} {tv : Value} {s : HaS} (w : World) (h : HaP w b p C vs tv s) (hF : Fit (allF s.fl 64)) :
    Calls Tryz.prog 160 #[.pointer (some ⟨b, 0, none⟩)] w fun e w' => e = .returned (.int .i64 (sumL (allF s.fl 64))) ∧ w' = w := by
  have HQ := bytesF_any (o := 3) (n := 64) w (fun i hi => h.list hi) (by decide) hF
  have hsl := slice64 b
  have hb := h.blk.lt
  clear h
  go_enter Tryz.func160, Tryz.ntmps160
  go_wp2_with (go_at_call 165; refine HQ.mono ?_; rintro e w2 ⟨rfl, hw2⟩; subst hw2)
  go_ret
  exact ⟨rfl, rfl⟩
theorem HaP.row131 {w : World} {b : Nat} {p : HaC} {C : Nat → Value} {vs : Nat → Value} {tv : Value} {s : HaS} (h : HaP w b p C vs tv s) : w.cell? ⟨b, 131, none⟩ = some tv ∧ w.frozen? ⟨b, 131, none⟩ = false := by
  have a1 := h.blk.cell (i := 131) (by omega)
  rw [h.ct] at a1
  exact a1
theorem hwhen_any {b : Nat} {p : HaC} {C : Nat → Value} {vs : Nat → Value} {tv : Value} {s : HaS} (now : Int) (w : World) (h : HaP w b p C vs tv s) :
    Calls Tryz.prog 164 #[.pointer (some ⟨b, 0, none⟩), .int .i64 now] w fun e w' => e = .returned (.tuple #[.int .i64 now, .bool (!s.tn.isEmpty)]) ∧ w' = w := by
  have HQ := twhen_any now w h.trow
  obtain ⟨c131, f131⟩ := h.row131
  have hb := h.blk.lt
  obtain ⟨x, cap, hx⟩ := Ins.slice h.trow
  clear h
  subst hx
  go_enter Tryz.func164, Tryz.ntmps164
  go_wp2_with (go_at_call 173; refine HQ.mono ?_; rintro e w2 ⟨rfl, hw2⟩; subst hw2)
  go_ret2
  exact ⟨rfl, rfl⟩
end Go.Proofs.YtfakjedolecdcaaGreatDoor
namespace Go.Proofs.YtfakjedolecdcaaGreatDoor
open Go.RowKit Go.Extern.Stop Go.Stop Go.Extern

/-- What is taken: the first one of the list whose turn it is. -/
def takeH (s : HaS) : HaS × List Hd × Hd × Bool :=
  match s.tn with
  | [] => (s, [], hd0, false)
  | m :: B =>
    match s.fl m.toNat with
    | [] => (s, [], hd0, false)
    | x :: L => if m.toNat < 64 then ({ fl := updF s.fl m.toNat L, tn := if L.isEmpty then B else B ++ [m] }, [], x, true) else (s, [], hd0, false)
theorem hao_refl {w : World} {b : Nat} {p : HaC} {C : Nat → Value} {vs : Nat → Value} {tv : Value} {s : HaS} (h : HaP w b p C vs tv s) : HaO w b p vs tv s w C vs tv := ⟨h, fun _ hk => Or.inl hk, Ot.refl _ _⟩
/-- Six cells of a block that is not its own are written. -/
theorem hao_six {w w1 : World} {b : Nat} {p : HaC} {C1 : Nat → Value} {vs vs1 : Nat → Value} {tv tv1 : Value} {s : HaS} {r : Nat} (h : HaO w b p vs tv s w1 C1 vs1 tv1) (hr : ¬ HaF b vs1 tv1 r) (hr2 : w.heap.size ≤ r) (a0 a1 a2 a3 a4 a5 : Value) : HaO w b p vs tv s ((((((w1.setCell ⟨r, 0, none⟩ a0).setCell ⟨r, 1, none⟩ a1).setCell ⟨r, 2, none⟩ a2).setCell ⟨r, 3, none⟩ a3).setCell ⟨r, 4, none⟩ a4).setCell ⟨r, 5, none⟩ a5) C1 vs1 tv1 := by
  refine ⟨(((((h.pos.setO (a := ⟨r, 0, none⟩) hr _).setO (a := ⟨r, 1, none⟩) hr _).setO (a := ⟨r, 2, none⟩) hr _).setO (a := ⟨r, 3, none⟩) hr _).setO (a := ⟨r, 4, none⟩) hr _).setO (a := ⟨r, 5, none⟩) hr _, h.own, ?_⟩
  have hO := h.ot
  repeat' (first | with_reducible exact hO | with_reducible refine Ot.setCell ?_ (Or.inr hr2) _)
set_option maxRecDepth 20000 in
set_option maxHeartbeats 4000000 in
theorem htake_any {b : Nat} {p : HaC} {C : Nat → Value} {vs : Nat → Value} {tv : Value} {s : HaS} (now : Int) (w : World) (h : HaP w b p C vs tv s) (htn : ∀ m ∈ s.tn, 0 ≤ m ∧ m < 64 ∧ s.fl m.toNat ≠ []) (hnd : s.tn.Nodup) (hl : s.tn.length ≤ 1000) (hF : ∀ f, f < 64 → Fit (s.fl f)) :
    Calls Tryz.prog 163 #[.pointer (some ⟨b, 0, none⟩), .int .i64 now] w fun e w' => e = .returned (.tuple #[(takeH s).2.2.1.val, .slice none 0 0, .bool (takeH s).2.2.2]) ∧ ∃ C' vs' tv', HaO w b p vs tv (takeH s).1 w' C' vs' tv' := by
  have H : Hid (HaP w b p C vs tv s) := h
  have hb := h.blk.lt
  have hV := Hd.val_eq
  have HLW : Hid (∀ k, HaF b vs tv k → k < w.heap.size) := fun k hk => h.low hk
  have hnr0 : ¬ HaF b vs tv w.heap.size := fun hk => by have := h.low hk; omega
  have HNR0 : Hid (¬ HaF b vs tv w.heap.size) := hnr0
  clear h hnr0
  obtain ⟨W0, hW0⟩ : ∃ W0, w.alloc (.cells #[.int .i64 0, .int .i64 0, .int .i64 0, .int .i64 0, .int .i64 0, .int .i64 0] 76) = W0 := ⟨_, rfl⟩
  have HP0 : Hid (HaO w b p vs tv s W0 C vs tv) := by
    refine ⟨?_, fun _ hk => Or.inl hk, ?_⟩
    · rw [← hW0]; exact H.out.al _
    · rw [← hW0]; exact Ot.alloc (Ot.refl _ _) _
  have hs0 : W0.heap.size = w.heap.size + 1 := by rw [← hW0]; simp
  have HZ0 : Hid (W0.heap[w.heap.size]? = some (.cells #[.int .i64 0, .int .i64 0, .int .i64 0, .int .i64 0, .int .i64 0, .int .i64 0] 76 (0, 0))) := by show _ = _; rw [← hW0]; exact new_block w _
  obtain ⟨⟨z0, z1, z2, z3, z4, z5⟩, y0, y1, y2, y3, y4, y5⟩ := six HZ0.out
  obtain ⟨c131, f131⟩ := HP0.out.pos.row131
  have hb0 : b < W0.heap.size := by omega
  have hw0 : w.heap.size < W0.heap.size := by omega
  have HTF := tfirst_any W0 HP0.out.pos.trow
  obtain ⟨tx, tcap, htv⟩ := Ins.slice HP0.out.pos.trow
  obtain ⟨tl, htl⟩ : ∃ tl, s.tn.length = tl := ⟨_, rfl⟩
  rw [htl] at htv
  rw [htv] at HTF c131
  have HTV : Hid (tv = .slice tx tl tcap) := htv
  clear htv htl
  go_enter Tryz.func163, Tryz.ntmps163
  go_wp2_with (go_at_call 170; fail)
  refine HTF.mono ?_
  rintro e w1 ⟨rfl, hw1⟩
  subst hw1
  clear hW0 HTF
  cases ht : s.tn with
  | nil =>
    have HT : Hid (takeH s = (s, [], hd0, false)) := by show _ = _; unfold takeH; rw [ht]
    go_wp2
    (try simp only [Exit.inBlock, Exit.then])
    rw [HT.out]
    exact bodyPost_ret (v := .tuple #[hd0.val, .slice none 0 0, .bool false]) (ret_held2 rfl rfl (six_set HZ0.out _ _ _ _ _ _) rfl rfl) rfl ⟨rfl, C, vs, tv, hao_six HP0.out HNR0.out (Nat.le_refl _) _ _ _ _ _ _⟩
  | cons m B =>
    obtain ⟨k1, k2, k3⟩ := htn m (by rw [ht]; simp)
    obtain ⟨f, hf⟩ : ∃ f : Nat, m = f := ⟨m.toNat, by omega⟩
    subst hf
    have hf : f < 64 := by omega
    rw [Int.toNat_natCast] at k3
    obtain ⟨x, L, hL⟩ : ∃ x L, s.fl f = x :: L := by
      cases hL : s.fl f with
      | nil => exact absurd hL k3
      | cons x L => exact ⟨x, L, rfl⟩
    have hFf := hF f hf
    have hlo := HP0.out.pos.list hf
    rw [hL] at hFf hlo
    have HNX := nextO_any w1 hlo hFf
    rw [show hdOr (x :: L) = x from rfl] at HNX
    have HT : Hid (takeH s = ({ fl := updF s.fl f L, tn := if L.isEmpty then B else B ++ [(f : Int)] }, [], x, true)) := by show _ = _; unfold takeH; rw [ht]; simp only [Int.toNat_natCast, hL, if_pos hf]
    have HTN : Hid (s.tn = (f : Int) :: B) := ht
    have hB : (f : Int) ∉ B := by rw [ht, List.nodup_cons] at hnd; exact hnd.1
    have hlB : ([] ++ (f : Int) :: B).length ≤ 1000 := by rw [ht] at hl; exact hl
    clear ht hL k3 htn hnd hl hF hlo k1 k2
    go_wp2_with (go_at_call 145; fail)
    refine HNX.mono ?_
    rintro e w2 ⟨rfl, v2, hl2, hk2, ho2⟩
    have hR2 : HaO w b p vs tv { s with fl := updF s.fl f L } w2 (updL C (3 + f * 2) v2 L) (updF vs f v2) tv := HP0.out.trans (hao_listed HP0.out.pos hf hl2 (fun k hk => Or.inl (by rw [← hk2]; exact hk)) (ho2.mono (fun k _ e => Or.inl e)))
    have hz2 : w2.heap[w.heap.size]? = _ := (ho2.block _ hw0 (by omega)).trans HZ0.out
    have hnr2 : ¬ HaF b (updF vs f v2) tv w.heap.size := by
      intro hk
      rcases hk with h | ⟨g, hg, hv⟩ | h
      · omega
      · by_cases e : g = f
        · subst e; rw [updF_same, hk2] at hv; exact HNR0.out (Or.inr (Or.inl ⟨g, hg, hv⟩))
        · rw [updF_ne e] at hv; exact HNR0.out (Or.inr (Or.inl ⟨g, hg, hv⟩))
      · exact HNR0.out (Or.inr (Or.inr h))
    have HR2 : Hid (HaO w b p vs tv { s with fl := updF s.fl f L } w2 (updL C (3 + f * 2) v2 L) (updF vs f v2) tv) := hR2
    have HZ2 : Hid (w2.heap[w.heap.size]? = some (.cells #[.int .i64 0, .int .i64 0, .int .i64 0, .int .i64 0, .int .i64 0, .int .i64 0] 76 (0, 0))) := hz2
    have HNR2 : Hid (¬ HaF b (updF vs f v2) tv w.heap.size) := hnr2
    clear z0 z1 z2 z3 z4 z5 y0 y1 y2 y3 y4 y5 c131 f131 HNX hl2
    obtain ⟨⟨z0, z1, z2, z3, z4, z5⟩, y0, y1, y2, y3, y4, y5⟩ := six hz2
    have hb2 := hR2.pos.blk.lt
    have hw2' := lt_of_block hz2
    clear hR2 hz2 hnr2 ho2 hk2
    obtain ⟨W3, hW3⟩ : ∃ W3, ((((((w2.setCell ⟨w.heap.size, 0, none⟩ (.int .i64 x.a)).setCell ⟨w.heap.size, 1, none⟩ (.int .i64 x.l)).setCell ⟨w.heap.size, 2, none⟩ (.int .i64 x.f)).setCell ⟨w.heap.size, 3, none⟩ (.int .i64 x.b)).setCell ⟨w.heap.size, 4, none⟩ (.int .i64 x.m)).setCell ⟨w.heap.size, 5, none⟩ (.int .i64 x.n)) = W3 := ⟨_, rfl⟩
    have HR3 : Hid (HaO w b p vs tv { s with fl := updF s.fl f L } W3 (updL C (3 + f * 2) v2 L) (updF vs f v2) tv) := by show HaO _ _ _ _ _ _ _ _ _ _; rw [← hW3]; exact hao_six HR2.out HNR2.out (Nat.le_refl _) _ _ _ _ _ _
    have HZ3 : Hid (W3.heap[w.heap.size]? = some (.cells #[.int .i64 x.a, .int .i64 x.l, .int .i64 x.f, .int .i64 x.b, .int .i64 x.m, .int .i64 x.n] 76 (0, 0))) := by show _ = _; rw [← hW3]; exact six_set HZ2.out _ _ _ _ _ _
    have HLN := lenO_any W3 (HR3.out.pos.list hf)
    simp only [updF_same] at HLN
    have HTO : Hid (TO W3 b 132 158 (updL C (3 + f * 2) v2 L) 131 tv ([] ++ (f : Int) :: B)) := by
      have := HR3.out.pos.turns
      simp only [HTN.out] at this
      exact this
    have hb3 := HR3.out.pos.blk.lt
    have hw3 := lt_of_block HZ3.out
    have HEND : Hid (∀ (s' : HaS) (w4 : World) (tv4 : Value), TPost W3 b 132 158 (updL C (3 + f * 2) v2 L) 131 tv s'.tn w4 tv4 → s'.fl = updF s.fl f L → w4.heap[w.heap.size]? = some (.cells #[.int .i64 x.a, .int .i64 x.l, .int .i64 x.f, .int .i64 x.b, .int .i64 x.m, .int .i64 x.n] 76 (0, 0)) ∧ ∀ (a0 a1 a2 a3 a4 a5 : Value), ∃ C' vs' tv', HaO w b p vs tv s' ((((((w4.setCell ⟨w.heap.size, 0, none⟩ a0).setCell ⟨w.heap.size, 1, none⟩ a1).setCell ⟨w.heap.size, 2, none⟩ a2).setCell ⟨w.heap.size, 3, none⟩ a3).setCell ⟨w.heap.size, 4, none⟩ a4).setCell ⟨w.heap.size, 5, none⟩ a5) C' vs' tv') := by
      intro s' w4 tv4 hp4 hfl
      obtain ⟨fl', tn'⟩ := s'
      simp only at hfl
      subst hfl
      have h1 := hao_turned HR3.out.pos hp4
      have h2 := HR3.out.trans h1
      refine ⟨(hp4.ot.block _ hw3 (fun e => ?_)).trans HZ3.out, fun a0 a1 a2 a3 a4 a5 => ⟨_, _, _, hao_six h2 (fun hk => ?_) (Nat.le_refl _) _ _ _ _ _ _⟩⟩
      · rcases e with e | e
        · exact HNR2.out (Or.inl e)
        · exact HNR2.out (Or.inr (Or.inr e))
      · rcases h1.own _ hk with h | h
        · exact HNR2.out h
        · omega
    go_wp2_with (go_at_call 139; fail)
    refine HLN.mono ?_
    rintro e w4 ⟨rfl, hw4⟩
    subst hw4
    clear hW3 z0 z1 z2 z3 z4 z5 y0 y1 y2 y3 y4 y5 HLN
    cases L with
    | nil =>
      have HLV := leave_any [] B (f : Int) w4 HTO.out (by simp) hB hlB
      go_wp2_with (go_at_call 171; fail)
      refine HLV.mono ?_
      rintro e w5 ⟨rfl, tv5, hp5⟩
      obtain ⟨hz5, hend⟩ := HEND.out { fl := updF s.fl f [], tn := B } w5 tv5 hp5 rfl
      obtain ⟨⟨z0, z1, z2, z3, z4, z5⟩, y0, y1, y2, y3, y4, y5⟩ := six hz5
      have hw5 := lt_of_block hz5
      go_wp2
      (try simp only [Exit.inBlock, Exit.then])
      rw [HT.out]
      exact bodyPost_ret (v := .tuple #[x.val, .slice none 0 0, .bool true]) (ret_held2 rfl rfl (six_set hz5 _ _ _ _ _ _) rfl rfl) rfl ⟨rfl, hend _ _ _ _ _ _⟩
    | cons y L' =>
      have HLV := fpass_any [] B (f : Int) w4 HTO.out (by simp) hB hlB
      have hne : (((L'.length : Int) + 1) == 0) = false := by simp; omega
      go_wp2_with (go_at_call 172; fail)
      refine HLV.mono ?_
      rintro e w5 ⟨rfl, tv5, hp5⟩
      obtain ⟨hz5, hend⟩ := HEND.out { fl := updF s.fl f (y :: L'), tn := B ++ [(f : Int)] } w5 tv5 hp5 rfl
      obtain ⟨⟨z0, z1, z2, z3, z4, z5⟩, y0, y1, y2, y3, y4, y5⟩ := six hz5
      have hw5 := lt_of_block hz5
      go_wp2
      (try simp only [Exit.inBlock, Exit.then])
      rw [HT.out]
      exact bodyPost_ret (v := .tuple #[x.val, .slice none 0 0, .bool true]) (ret_held2 rfl rfl (six_set hz5 _ _ _ _ _ _) rfl rfl) rfl ⟨rfl, hend _ _ _ _ _ _⟩
end Go.Proofs.YtfakjedolecdcaaGreatDoor
namespace Go.Proofs.YtfakjedolecdcaaGreatDoor
open Go.RowKit Go.Extern.Stop Go.Stop Go.Extern

/-- The longest of the first n lists (of like ones the first). -/
def longK (fl : Nat → List Hd) : Nat → Nat
  | 0 => 0
  | n + 1 => if (fl (longK fl n)).length < (fl n).length then n else longK fl n
theorem longK_lt (fl : Nat → List Hd) : ∀ n, n ≤ 64 → longK fl n < 64 := by
  intro n
  induction n with
  | zero => intro _; exact (by decide : (0 : Nat) < 64)
  | succ n ih =>
    intro h
    simp only [longK]
    split
    · omega
    · exact ih (by omega)
theorem longK_max (fl : Nat → List Hd) : ∀ n i, i < n → (fl i).length ≤ (fl (longK fl n)).length := by
  intro n
  induction n with
  | zero => intro i h; omega
  | succ n ih =>
    intro i hi
    simp only [longK]
    split
    · by_cases e : i = n
      · subst e; exact Nat.le_refl _
      · have := ih i (by omega); omega
    · by_cases e : i = n
      · subst e; omega
      · exact ih i (by omega)
/-- The last packet of the longest list is thrown away. -/
def cutH (s : HaS) : HaS × Hd := ({ fl := updF s.fl (longK s.fl 64) (s.fl (longK s.fl 64)).dropLast, tn := if (s.fl (longK s.fl 64)).dropLast.isEmpty then s.tn.erase (longK s.fl 64 : Int) else s.tn }, lsOr (s.fl (longK s.fl 64)))
theorem split_erase {l : List Int} {m : Int} (h : m ∈ l) (hn : l.Nodup) : ∃ A B, l = A ++ m :: B ∧ m ∉ A ∧ m ∉ B ∧ l.erase m = A ++ B := by
  obtain ⟨A, B, hA⟩ := List.append_of_mem h
  have hn' := hn
  rw [hA, List.nodup_append, List.nodup_cons] at hn'
  have hmA : m ∉ A := fun h1 => hn'.2.2 m h1 m (by simp) rfl
  refine ⟨A, B, hA, hmA, hn'.2.1.1, ?_⟩
  rw [hA, List.erase_append_right _ hmA, List.erase_cons_head]
set_option maxRecDepth 20000 in
set_option maxHeartbeats 4000000 in
theorem hcut_any {b : Nat} {p : HaC} {C : Nat → Value} {vs : Nat → Value} {tv : Value} {s : HaS} (w : World) (h : HaP w b p C vs tv s) (hne : s.fl (longK s.fl 64) ≠ []) (hin : (longK s.fl 64 : Int) ∈ s.tn) (hnd : s.tn.Nodup) (hl : s.tn.length ≤ 1000) (hF : ∀ f, f < 64 → Fit (s.fl f)) :
    Calls Tryz.prog 169 #[.pointer (some ⟨b, 0, none⟩)] w fun e w' => e = .returned (cutH s).2.val ∧ ∃ C' vs' tv', HaO w b p vs tv (cutH s).1 w' C' vs' tv' := by
  have H : Hid (HaP w b p C vs tv s) := h
  have hb := h.blk.lt
  have hV := Hd.val_eq
  have HLW : Hid (∀ k, HaF b vs tv k → k < w.heap.size) := fun k hk => h.low hk
  have hnr0 : ¬ HaF b vs tv w.heap.size := fun hk => by have := h.low hk; omega
  have HNR0 : Hid (¬ HaF b vs tv w.heap.size) := hnr0
  clear h hnr0
  obtain ⟨W0, hW0⟩ : ∃ W0, w.alloc (.cells #[.int .i64 0, .int .i64 0, .int .i64 0, .int .i64 0, .int .i64 0, .int .i64 0] 76) = W0 := ⟨_, rfl⟩
  have HP0 : Hid (HaO w b p vs tv s W0 C vs tv) := by
    refine ⟨?_, fun _ hk => Or.inl hk, ?_⟩
    · rw [← hW0]; exact H.out.al _
    · rw [← hW0]; exact Ot.alloc (Ot.refl _ _) _
  have hs0 : W0.heap.size = w.heap.size + 1 := by rw [← hW0]; simp
  have HZ0 : Hid (W0.heap[w.heap.size]? = some (.cells #[.int .i64 0, .int .i64 0, .int .i64 0, .int .i64 0, .int .i64 0, .int .i64 0] 76 (0, 0))) := by show _ = _; rw [← hW0]; exact new_block w _
  have hb0 : b < W0.heap.size := by omega
  have hw0 : w.heap.size < W0.heap.size := by omega
  go_enter Tryz.func169, Tryz.ntmps169
  go_wp2
  clear hW0
  go_loopw [3, 7] (fun lv iv wr => ∃ i n' : Nat, i ≤ 64 ∧ iv = .int .i64 i ∧ lv = .int .i64 (longK s.fl i : Nat) ∧ wr = W0.drewN n') (fun _ i _ => 64 - (intOf i).toNat)
  case atStart => exact ⟨0, 0, by decide, rfl, rfl, rfl⟩
  case round =>
    obtain ⟨i, n1, hi64, rfl, rfl, rfl⟩ := hrel
    have hll := longK_lt s.fl i hi64
    by_cases hi : i < 64
    · have HK : Hid (longK s.fl (i + 1) = if (s.fl (longK s.fl i)).length < (s.fl i).length then i else longK s.fl i) := rfl
      have H1 : Hid (∀ n, Calls Tryz.prog 139 #[.pointer (some ⟨b, 3 + i * 2, none⟩)] (W0.drewN n) fun e w' => e = .returned (.int .i64 (s.fl i).length) ∧ w' = W0.drewN n) := fun n => lenO_any _ (LO.kept (HP0.out.pos.list hi) rfl (fun _ _ => rfl))
      have H2 : Hid (∀ n, Calls Tryz.prog 139 #[.pointer (some ⟨b, 3 + longK s.fl i * 2, none⟩)] (W0.drewN n) fun e w' => e = .returned (.int .i64 (s.fl (longK s.fl i)).length) ∧ w' = W0.drewN n) := fun n => lenO_any _ (LO.kept (HP0.out.pos.list hll) rfl (fun _ _ => rfl))
      generalize longK s.fl i = l at *
      generalize (s.fl i).length = a at *
      generalize (s.fl l).length = c at *
      by_cases hac : c < a
      · have o1 : decide ((c : Int) < (a : Int)) = true := by simp; omega
        rw [if_pos hac] at HK
        have o2 : decide (c < a) = true := decide_eq_true hac
        have o3 : (c : Int) < (a : Int) := by omega
        go_wp2
        go_quiet ((go_at_call 139; (first | with_reducible refine (H1.out _).mono ?_ | with_reducible refine (H2.out _).mono ?_); rintro e w' ⟨rfl, rfl⟩; exact ⟨rfl, _, rfl⟩))
        go_wp2
        go_roundw
        case rel => exact ⟨i + 1, _, by omega, by go_num, by rw [HK.out], by first | rfl | trivial⟩
        case measure => simp [intOf]; omega
      · have o1 : decide ((c : Int) < (a : Int)) = false := by simp; omega
        rw [if_neg hac] at HK
        have o2 : decide (c < a) = false := decide_eq_false hac
        have o3 : ¬ (c : Int) < (a : Int) := by omega
        go_wp2
        go_quiet ((go_at_call 139; (first | with_reducible refine (H1.out _).mono ?_ | with_reducible refine (H2.out _).mono ?_); rintro e w' ⟨rfl, rfl⟩; exact ⟨rfl, _, rfl⟩))
        go_wp2
        go_roundw
        case rel => exact ⟨i + 1, _, by omega, by go_num, by rw [HK.out], by first | rfl | trivial⟩
        case measure => simp [intOf]; omega
    · obtain rfl : i = 64 := by omega
      have hKlt := longK_lt s.fl 64 (by decide)
      have hFK := hF _ hKlt
      have HLA := lastO_any (W0.drewN n1) (LO.kept (HP0.out.pos.list hKlt) rfl (fun _ _ => rfl)) hFK
      obtain ⟨P, R, hPR, hmP, hmR, her⟩ := split_erase hin hnd
      have HT : Hid (cutH s = ({ fl := updF s.fl (longK s.fl 64) (s.fl (longK s.fl 64)).dropLast, tn := if (s.fl (longK s.fl 64)).dropLast.isEmpty then P ++ R else s.tn }, lsOr (s.fl (longK s.fl 64)))) := by show _ = _; unfold cutH; rw [her]
      have HPR : Hid (s.tn = P ++ (longK s.fl 64 : Int) :: R) := hPR
      have hlP : (P ++ (longK s.fl 64 : Int) :: R).length ≤ 1000 := by rw [← hPR]; exact hl
      have hem : (!(s.fl (longK s.fl 64)).isEmpty) = true := by
        cases h : s.fl (longK s.fl 64) with
        | nil => exact absurd h hne
        | cons _ _ => rfl
      rw [hem] at HLA
      clear hem hPR her hin hnd hl hne hi hll hFK hi64 hF
      generalize longK s.fl 64 = f at *
      have hf : f < 64 := hKlt
      obtain ⟨x, hx⟩ : ∃ x, lsOr (s.fl f) = x := ⟨_, rfl⟩
      obtain ⟨L, hL⟩ : ∃ L, (s.fl f).dropLast = L := ⟨_, rfl⟩
      rw [hx, hL] at HLA HT
      clear hx hL
      go_wp2_with (go_at_call 174; fail)
      refine HLA.mono ?_
      rintro e w2 ⟨rfl, v2, hl2, hk2, ho2⟩
      have hR2 : HaO w b p vs tv { s with fl := updF s.fl f L } w2 (updL C (3 + f * 2) v2 L) (updF vs f v2) tv := HP0.out.trans (hao_listed HP0.out.pos hf hl2 (fun k hk => Or.inl (by rw [← hk2]; exact hk)) ((show Ot (· = b) W0 w2 from ⟨ho2.os, ho2.tape, ho2.output, ho2.size, ho2.block⟩).mono (fun k _ e => Or.inl e)))
      have hz2 : w2.heap[w.heap.size]? = _ := (ho2.block _ hw0 (by omega)).trans HZ0.out
      have hnr2 : ¬ HaF b (updF vs f v2) tv w.heap.size := by
        intro hk
        rcases hk with h | ⟨g, hg, hv⟩ | h
        · omega
        · by_cases e : g = f
          · subst e; rw [updF_same, hk2] at hv; exact HNR0.out (Or.inr (Or.inl ⟨g, hg, hv⟩))
          · rw [updF_ne e] at hv; exact HNR0.out (Or.inr (Or.inl ⟨g, hg, hv⟩))
        · exact HNR0.out (Or.inr (Or.inr h))
      have HNR2 : Hid (¬ HaF b (updF vs f v2) tv w.heap.size) := hnr2
      obtain ⟨X, hX⟩ : ∃ X, w2.heap.size = X := ⟨_, rfl⟩
      have hwX : w.heap.size < X := by rw [← hX]; exact lt_of_block hz2
      obtain ⟨W3, hW3⟩ : ∃ W3, w2.alloc (.cells #[.int .i64 x.a, .int .i64 x.l, .int .i64 x.f, .int .i64 x.b, .int .i64 x.m, .int .i64 x.n] 76) = W3 := ⟨_, rfl⟩
      have HR3 : Hid (HaO w b p vs tv { s with fl := updF s.fl f L } W3 (updL C (3 + f * 2) v2 L) (updF vs f v2) tv) := by
        refine ⟨?_, hR2.own, ?_⟩
        · rw [← hW3]; exact hR2.pos.al _
        · rw [← hW3]; exact hR2.ot.alloc _
      have HZ3 : Hid (W3.heap[w.heap.size]? = some (.cells #[.int .i64 0, .int .i64 0, .int .i64 0, .int .i64 0, .int .i64 0, .int .i64 0] 76 (0, 0))) := by show _ = _; rw [← hW3]; exact (Below.heap_alloc _ _ _ (by omega)).trans hz2
      have HX3 : Hid (W3.heap[X]? = some (.cells #[.int .i64 x.a, .int .i64 x.l, .int .i64 x.f, .int .i64 x.b, .int .i64 x.m, .int .i64 x.n] 76 (0, 0))) := by show _ = _; rw [← hW3]; exact new_block_ hX.symm
      have hnX2 : ¬ HaF b (updF vs f v2) tv X := fun hk => by have := hR2.pos.low hk; omega
      have HNX2 : Hid (¬ HaF b (updF vs f v2) tv X) := hnX2
      have HLN := lenO_any W3 (HR3.out.pos.list hf)
      simp only [updF_same] at HLN
      have HTO : Hid (TO W3 b 132 158 (updL C (3 + f * 2) v2 L) 131 tv (P ++ (f : Int) :: R)) := by
        have := HR3.out.pos.turns
        simp only [HPR.out] at this
        exact this
      have hb3 := HR3.out.pos.blk.lt
      have hw3 := lt_of_block HZ3.out
      have hx3 := lt_of_block HX3.out
      have HEND : Hid (∀ (s' : HaS) (w4 : World) (C4 : Nat → Value) (vs4 : Nat → Value) (tv4 : Value), HaO W3 b p (updF vs f v2) tv s' w4 C4 vs4 tv4 → w4.heap[w.heap.size]? = some (.cells #[.int .i64 0, .int .i64 0, .int .i64 0, .int .i64 0, .int .i64 0, .int .i64 0] 76 (0, 0)) ∧ w4.heap[X]? = some (.cells #[.int .i64 x.a, .int .i64 x.l, .int .i64 x.f, .int .i64 x.b, .int .i64 x.m, .int .i64 x.n] 76 (0, 0)) ∧ ∀ (a0 a1 a2 a3 a4 a5 : Value), ∃ C' vs' tv', HaO w b p vs tv s' ((((((w4.setCell ⟨w.heap.size, 0, none⟩ a0).setCell ⟨w.heap.size, 1, none⟩ a1).setCell ⟨w.heap.size, 2, none⟩ a2).setCell ⟨w.heap.size, 3, none⟩ a3).setCell ⟨w.heap.size, 4, none⟩ a4).setCell ⟨w.heap.size, 5, none⟩ a5) C' vs' tv') := by
        intro s' w4 C4 vs4 tv4 h1
        have h2 := HR3.out.trans h1
        refine ⟨(h1.ot.block _ hw3 HNR2.out).trans HZ3.out, (h1.ot.block _ hx3 HNX2.out).trans HX3.out, fun a0 a1 a2 a3 a4 a5 => ⟨_, _, _, hao_six h2 (fun hk => ?_) (Nat.le_refl _) _ _ _ _ _ _⟩⟩
        rcases h1.own _ hk with h | h
        · exact HNR2.out h
        · omega
      clear hR2 hl2 hk2 ho2 hz2 hnr2 hnX2 HLA
      have hxn : ¬ w.heap.size = X := by omega
      have hxn2 : ¬ X = w.heap.size := by omega
      go_wp2_with (go_at_call 139; fail)
      refine HLN.mono ?_
      rintro e w4 ⟨rfl, hw4⟩
      subst hw4
      clear hW3 HLN hX
      cases L with
      | nil =>
        have HLV := leave_any P R (f : Int) w4 HTO.out hmP hmR hlP
        go_wp2_with (go_at_call 171; fail)
        refine HLV.mono ?_
        rintro e w5 ⟨rfl, tv5, hp5⟩
        obtain ⟨hz5, hx5, hend⟩ := HEND.out _ w5 _ _ _ (hao_turned HR3.out.pos hp5)
        obtain ⟨⟨z0, z1, z2, z3, z4, z5⟩, y0, y1, y2, y3, y4, y5⟩ := six hz5
        obtain ⟨⟨r0, r1, r2, r3, r4, r5⟩, t0, t1, t2, t3, t4, t5⟩ := six hx5
        have hw5 := lt_of_block hz5
        have hX5 := lt_of_block hx5
        go_wp2
        (try simp only [Exit.inBlock, Exit.then])
        rw [HT.out]
        exact bodyPost_ret (v := x.val) (ret_held1 rfl rfl (six_set hz5 _ _ _ _ _ _)) rfl ⟨rfl, hend _ _ _ _ _ _⟩
      | cons y L' =>
        have hne2 : (((L'.length : Int) + 1) == 0) = false := by simp; omega
        obtain ⟨hz5, hx5, hend⟩ := HEND.out _ w4 _ _ _ (hao_refl HR3.out.pos)
        obtain ⟨⟨z0, z1, z2, z3, z4, z5⟩, y0, y1, y2, y3, y4, y5⟩ := six hz5
        obtain ⟨⟨r0, r1, r2, r3, r4, r5⟩, t0, t1, t2, t3, t4, t5⟩ := six hx5
        go_wp2
        (try simp only [Exit.inBlock, Exit.then])
        rw [HT.out]
        exact bodyPost_ret (v := x.val) (ret_held1 rfl rfl (six_set hz5 _ _ _ _ _ _)) rfl ⟨rfl, hend _ _ _ _ _ _⟩
end Go.Proofs.YtfakjedolecdcaaGreatDoor
namespace Go.Proofs.YtfakjedolecdcaaGreatDoor
open Go.RowKit Go.Extern.Stop Go.Stop Go.Extern

/-- A packet is put into its list. -/
def intoH (p : HaC) (s : HaS) (x : Hd) : HaS := { fl := updF s.fl (whereN p x.f).toNat (s.fl (whereN p x.f).toNat ++ [x]), tn := if (s.fl (whereN p x.f).toNat).isEmpty then s.tn ++ [whereN p x.f] else s.tn }
def putH (p : HaC) (s : HaS) (x : Hd) : HaS × List Hd := if ((allF (intoH p s x).fl 64).length : Int) ≤ p.room then (intoH p s x, []) else ((cutH (intoH p s x)).1, [(cutH (intoH p s x)).2])
set_option maxRecDepth 20000 in
set_option maxHeartbeats 4000000 in
theorem hput_any {b : Nat} {p : HaC} {C : Nat → Value} {vs : Nat → Value} {tv : Value} {s : HaS} (now : Int) (x : Hd) (w : World) (h : HaP w b p C vs tv s) (hm0 : 1 ≤ p.many) (hm1 : p.many ≤ 64) (hs0 : 0 ≤ p.salt) (hs1 : p.salt ≤ 1000000) (hf0 : 0 ≤ x.f) (hf1 : x.f ≤ 1000000) (hl : s.tn.length ≤ 900) (hF : Fit (s.fl (whereN p x.f).toNat ++ [x])) (hFa : Fit (allF (intoH p s x).fl 64))
    (hne : (intoH p s x).fl (longK (intoH p s x).fl 64) ≠ []) (hin : (longK (intoH p s x).fl 64 : Int) ∈ (intoH p s x).tn) (hnd : (intoH p s x).tn.Nodup) (hFF : ∀ f, f < 64 → Fit ((intoH p s x).fl f)) :
    Calls Tryz.prog 162 #[.pointer (some ⟨b, 0, none⟩), .int .i64 now, x.val] w fun e w' => ∃ u C' vs' tv', e = .returned u ∧ Hs w' u (putH p s x).2 ∧ (∀ k, u.ownBlock = some k → w.heap.size ≤ k) ∧ HaO w b p vs tv (putH p s x).1 w' C' vs' tv' := by
  have H : Hid (HaP w b p C vs tv s) := h
  have hb := h.blk.lt
  have HLW : Hid (∀ k, HaF b vs tv k → k < w.heap.size) := fun k hk => h.low hk
  have hwb := whereN_bd hm0 x.f
  obtain ⟨f, hf⟩ : ∃ f : Nat, whereN p x.f = f := ⟨(whereN p x.f).toNat, by omega⟩
  have hf64 : f < 64 := by omega
  have HIN : Hid (intoH p s x = { fl := updF s.fl f (s.fl f ++ [x]), tn := if (s.fl f).isEmpty then s.tn ++ [(f : Int)] else s.tn }) := by show _ = _; unfold intoH; rw [hf, Int.toNat_natCast]
  rw [hf, Int.toNat_natCast] at hF
  have HFI : Hid (Fit (s.fl f ++ [x])) := hF
  have HWH : Hid (∀ W : World, HaP W b p C vs tv s → Calls Tryz.prog 167 #[.pointer (some ⟨b, 0, none⟩), .int .i64 x.f] W fun e w' => e = .returned (.int .i64 f) ∧ ∃ n, w' = W.drewN n) := fun W hW => by
    have := where_any x.f W hW hm0 hm1 hs0 hs1 hf0 hf1
    rw [hf] at this
    exact this
  have HLAST : Hid (∀ (W : World) (C1 : Nat → Value) (vs1 : Nat → Value) (tv1 : Value), HaP W b p C1 vs1 tv1 (intoH p s x) → (Calls Tryz.prog 161 #[.pointer (some ⟨b, 0, none⟩)] W fun e w' => e = .returned (.int .i64 (allF (intoH p s x).fl 64).length) ∧ w' = W) ∧ Calls Tryz.prog 169 #[.pointer (some ⟨b, 0, none⟩)] W fun e w' => e = .returned (cutH (intoH p s x)).2.val ∧ ∃ C' vs' tv', HaO W b p vs1 tv1 (cutH (intoH p s x)).1 w' C' vs' tv') := by
    intro W C1 vs1 tv1 hW
    refine ⟨hlen_any W hW hFa, hcut_any W hW hne hin hnd ?_ hFF⟩
    rw [HIN.out]
    show (if (s.fl f).isEmpty then s.tn ++ [(f : Int)] else s.tn).length ≤ 1000
    split
    · simp; omega
    · omega
  have HPU : Hid (putH p s x = if ((allF (intoH p s x).fl 64).length : Int) ≤ p.room then (intoH p s x, []) else ((cutH (intoH p s x)).1, [(cutH (intoH p s x)).2])) := rfl
  clear h hF hFa hne hin hnd hFF hwb
  obtain ⟨W0, hW0⟩ : ∃ W0, w.alloc (.cells #[.int .i64 x.a, .int .i64 x.l, .int .i64 x.f, .int .i64 x.b, .int .i64 x.m, .int .i64 x.n] 76) = W0 := ⟨_, rfl⟩
  have HP0 : Hid (HaO w b p vs tv s W0 C vs tv) := by
    refine ⟨?_, fun _ hk => Or.inl hk, ?_⟩
    · rw [← hW0]; exact H.out.al _
    · rw [← hW0]; exact Ot.alloc (Ot.refl _ _) _
  have hs0' : W0.heap.size = w.heap.size + 1 := by rw [← hW0]; simp
  have HX0 : Hid (W0.heap[w.heap.size]? = some (.cells #[.int .i64 x.a, .int .i64 x.l, .int .i64 x.f, .int .i64 x.b, .int .i64 x.m, .int .i64 x.n] 76 (0, 0))) := by show _ = _; rw [← hW0]; exact new_block w _
  obtain ⟨⟨z0, z1, z2, z3, z4, z5⟩, y0, y1, y2, y3, y4, y5⟩ := six HX0.out
  have hb0 : b < W0.heap.size := by omega
  have hw0 : w.heap.size < W0.heap.size := by omega
  have HLN : Hid (∀ n, Calls Tryz.prog 139 #[.pointer (some ⟨b, 3 + f * 2, none⟩)] (W0.drewN n) fun e w' => e = .returned (.int .i64 (s.fl f).length) ∧ w' = W0.drewN n) := fun n => lenO_any _ ((HP0.out.pos.drewN n).list hf64)
  rw [Hd.val_eq x]
  go_enter Tryz.func162, Tryz.ntmps162
  go_wp2_with (go_at_call 167; fail)
  refine (HWH.out _ HP0.out.pos).mono ?_
  rintro e w1 ⟨rfl, n1, hw1⟩
  subst hw1
  clear hW0
  go_upto_if 19 with (go_at_call 139; refine (HLN.out _).mono ?_; rintro e w2 ⟨rfl, hw2⟩; subst hw2)
  have HNR : Hid (¬ HaF b vs tv w.heap.size) := fun hk => by have := HLW.out _ hk; omega
  have HJ : Hid (Calls Tryz.prog 168 #[.pointer (some ⟨b, 131, none⟩), .int .i64 f] (W0.drewN n1) fun e w' => e = .returned (.tuple #[]) ∧ ∃ tv', TPost (W0.drewN n1) b 132 158 C 131 tv (s.tn ++ [(f : Int)]) w' tv') := join_any (f : Int) _ (HP0.out.pos.drewN n1).turns (by omega)
  have hO0 : Ot (HaF b vs tv) w (W0.drewN n1) := HP0.out.ot.drewN n1
  have HO0 : Hid (HaO w b p vs tv s (W0.drewN n1) C vs tv) := ⟨HP0.out.pos.drewN n1, HP0.out.own, hO0⟩
  have hrs : b < (W0.drewN n1).heap.size := hb0
  obtain ⟨ln, hln⟩ : ∃ ln, (s.fl f).length = ln := ⟨_, rfl⟩
  have HLL : Hid ((s.fl f).length = ln) := hln
  rw [hln]
  clear hln hO0
  go_cut [] (fun wx => ∃ C1 tv1, HaO w b p vs tv { s with tn := if (s.fl f).isEmpty then s.tn ++ [(f : Int)] else s.tn } wx C1 vs tv1 ∧ wx.heap[w.heap.size]? = some (.cells #[.int .i64 x.a, .int .i64 x.l, .int .i64 x.f, .int .i64 x.b, .int .i64 x.m, .int .i64 x.n] 76 (0, 0)))
  case first =>
    rcases Nat.eq_zero_or_pos ln with h0 | h0
    · have he : (s.fl f).isEmpty = true := by rw [List.isEmpty_iff]; exact List.eq_nil_of_length_eq_zero (by rw [HLL.out]; exact h0)
      have HE : Hid ((s.fl f).isEmpty = true) := he
      subst h0
      clear he
      go_wp2_with (go_at_call 168; fail)
      refine HJ.out.mono ?_
      rintro e w2 ⟨rfl, tv2, hp2⟩
      have h1 := hao_turned HO0.out.pos hp2
      have HRL : Hid (∃ C1 tv1, HaO w b p vs tv { s with tn := if (s.fl f).isEmpty then s.tn ++ [(f : Int)] else s.tn } w2 C1 vs tv1 ∧ w2.heap[w.heap.size]? = some (.cells #[.int .i64 x.a, .int .i64 x.l, .int .i64 x.f, .int .i64 x.b, .int .i64 x.m, .int .i64 x.n] 76 (0, 0))) := by
        rw [HE.out]
        exact ⟨_, _, HO0.out.trans h1, (h1.ot.block _ hw0 HNR.out).trans HX0.out⟩
      go_wp2
      go_meet
      case rel => exact HRL.out
    · have he : (s.fl f).isEmpty = false := by
        cases hs : s.fl f with
        | nil => have := HLL.out; rw [hs] at this; simp at this; omega
        | cons y l => rfl
      have HRL : Hid (∃ C1 tv1, HaO w b p vs tv { s with tn := if (s.fl f).isEmpty then s.tn ++ [(f : Int)] else s.tn } (W0.drewN n1) C1 vs tv1 ∧ (W0.drewN n1).heap[w.heap.size]? = some (.cells #[.int .i64 x.a, .int .i64 x.l, .int .i64 x.f, .int .i64 x.b, .int .i64 x.m, .int .i64 x.n] 76 (0, 0))) := by
        rw [he]
        exact ⟨_, _, HO0.out, HX0.out⟩
      have h0b : ((ln : Int) == 0) = false := by simp; omega
      clear he
      go_wp2
      go_meet
      case rel => exact HRL.out
  case rest =>
    obtain ⟨C1, tv1, hR1, hx1⟩ := hcut
    have HR1 : Hid (HaO w b p vs tv { s with tn := if (s.fl f).isEmpty then s.tn ++ [(f : Int)] else s.tn } wc C1 vs tv1) := hR1
    have HX1 : Hid (wc.heap[w.heap.size]? = some (.cells #[.int .i64 x.a, .int .i64 x.l, .int .i64 x.f, .int .i64 x.b, .int .i64 x.m, .int .i64 x.n] 76 (0, 0))) := hx1
    clear z0 z1 z2 z3 z4 z5 y0 y1 y2 y3 y4 y5
    obtain ⟨⟨z0, z1, z2, z3, z4, z5⟩, y0, y1, y2, y3, y4, y5⟩ := six hx1
    have hbc := hR1.pos.blk.lt
    have hwc := lt_of_block hx1
    have HAD : Hid (∀ n, Calls Tryz.prog 143 #[.pointer (some ⟨b, 3 + f * 2, none⟩), .agg #[.int .i64 x.a, .int .i64 x.l, .int .i64 x.f, .int .i64 x.b, .int .i64 x.m, .int .i64 x.n]] (wc.drewN n) fun e w' => e = .returned (.tuple #[]) ∧ ∃ C' v', HaO w b p vs tv (intoH p s x) w' C' (updF vs f v') tv1) := by
      intro n
      have h1 := addO_any x (wc.drewN n) ((HR1.out.pos.drewN n).list hf64) HFI.out
      rw [Hd.val_eq x] at h1
      refine h1.mono ?_
      rintro e w' ⟨rfl, v', hl', hk', ho'⟩
      rw [HIN.out]
      exact ⟨rfl, _, v', HaO.trans (w1 := wc.drewN n) ⟨HR1.out.pos.drewN n, HR1.out.own, HR1.out.ot.drewN n⟩ (hao_listed (HR1.out.pos.drewN n) hf64 hl' hk' ho')⟩
    clear hR1 hx1
    go_wp2
    go_region_with (go_at_call 143; refine Calls.mono (by exact HAD.out _) ?_; rintro e w3 ⟨rfl, C3, v3, hR3⟩)
    all_goals
      have HR3 : Hid (HaO w b p vs tv (intoH p s x) w3 C3 (updF vs f v3) tv1) := hR3
      have HLQ : Hid (∀ n, Calls Tryz.prog 161 #[.pointer (some ⟨b, 0, none⟩)] (w3.drewN n) fun e w' => e = .returned (.int .i64 (allF (intoH p s x).fl 64).length) ∧ w' = w3.drewN n) := fun n => (HLAST.out _ _ _ _ (hR3.pos.drewN n)).1
      have HCQ : Hid (∀ n, Calls Tryz.prog 169 #[.pointer (some ⟨b, 0, none⟩)] (w3.drewN n) fun e w' => e = .returned (cutH (intoH p s x)).2.val ∧ ∃ C' vs' tv', HaO (w3.drewN n) b p (updF vs f v3) tv1 (cutH (intoH p s x)).1 w' C' vs' tv') := fun n => (HLAST.out _ _ _ _ (hR3.pos.drewN n)).2
      obtain ⟨e0, e1, e2⟩ := hR3.pos.heads
      have hb3 := hR3.pos.blk.lt
      have HSZ : Hid (w.heap.size ≤ w3.heap.size) := hR3.ot.size
      clear hR3
      obtain ⟨N, hN⟩ : ∃ N, (allF (intoH p s x).fl 64).length = N := ⟨_, rfl⟩
      rw [hN] at HLQ HPU
      clear hN
      obtain ⟨K, hK⟩ : ∃ K, cutH (intoH p s x) = K := ⟨_, rfl⟩
      rw [hK] at HCQ HPU
      clear hK
      obtain ⟨sK, xK⟩ := K
      by_cases hrm : (N : Int) ≤ p.room
      · have o1 : decide ((N : Int) ≤ p.room) = true := decide_eq_true hrm
        rw [if_pos hrm] at HPU
        go_wp2
        go_quiet ((go_at_call 161; refine (HLQ.out _).mono ?_; rintro e w' ⟨rfl, rfl⟩; exact ⟨rfl, _, rfl⟩))
        go_wp2
        go_ret
        rw [HPU.out]
        have hT : ∀ n, Hs (w3.drewN n) (.slice none 0 0) ([] : List Hd) ∧ (∀ k, (Value.slice none 0 0).ownBlock = some k → w.heap.size ≤ k) ∧ HaO w b p vs tv (intoH p s x) (w3.drewN n) C3 (updF vs f v3) tv1 := fun n => ⟨Hs.nil _, fun k hk => by simp [Value.ownBlock] at hk, HR3.out.pos.drewN n, HR3.out.own, HR3.out.ot.drewN n⟩
        first
        | exact ⟨_, C3, _, tv1, rfl, hT _⟩
        | exact ⟨_, rfl, (hT _).1, (hT _).2.1, C3, _, tv1, (hT _).2.2⟩
      · have o1 : decide ((N : Int) ≤ p.room) = false := decide_eq_false hrm
        rw [if_neg hrm] at HPU
        go_wp2
        go_quiet ((go_at_call 161; refine (HLQ.out _).mono ?_; rintro e w' ⟨rfl, rfl⟩; exact ⟨rfl, _, rfl⟩))
        go_wp2_with (go_at_call 169; fail)
        refine (HCQ.out _).mono ?_
        rintro e w5 ⟨rfl, C5, vs5, tv5, hR5⟩
        have hR6 := HaO.trans (w1 := w3.drewN _) ⟨HR3.out.pos.drewN _, HR3.out.own, HR3.out.ot.drewN _⟩ hR5
        have HR6 : Hid (HaO w b p vs tv sK w5 C5 vs5 tv5) := hR6
        have hs5 := hR6.ot.size
        rw [Hd.val_eq xK]
        go_wp2
        go_ret
        rw [HPU.out]
        have hT : Hs (w5.alloc (.cells #[.int .i64 xK.a, .int .i64 xK.l, .int .i64 xK.f, .int .i64 xK.b, .int .i64 xK.m, .int .i64 xK.n] 76)) (.slice (some ⟨w5.heap.size, 0, none⟩) 1 1) [xK] ∧ (∀ k, (Value.slice (some ⟨w5.heap.size, 0, none⟩) 1 1).ownBlock = some k → w.heap.size ≤ k) ∧ HaO w b p vs tv sK (w5.alloc (.cells #[.int .i64 xK.a, .int .i64 xK.l, .int .i64 xK.f, .int .i64 xK.b, .int .i64 xK.m, .int .i64 xK.n] 76)) C5 vs5 tv5 := by
          refine ⟨Hs.one (new_block_ rfl), fun k hk => ?_, HR6.out.pos.al _, HR6.out.own, HR6.out.ot.alloc _⟩
          simp [Value.ownBlock] at hk
          omega
        first
        | exact ⟨_, C5, vs5, tv5, rfl, hT⟩
        | exact ⟨_, rfl, hT.1, hT.2.1, C5, vs5, tv5, hT.2.2⟩
end Go.Proofs.YtfakjedolecdcaaGreatDoor
