/-
  The law ActionOnce, walked: without jumps back a program never goes round; without buckets it does with each packet the same again, and counts as often. Conditions: the actions lie in memory, errors.errorType is laid.
-/
import Derived.Test.YtnoppfgikanebaaDoorAc8
import Derived.Test.YtnoppfgikanebaaDoorErrs
namespace Go.Proofs.YtnoppfgikanebaaDoor
open Go.RowKit Go.Extern.Stop Go.Stop Go.Extern

/-! ### Mathematics -/
/-- No bucket, and no jump back, at action i. -/
def FwdA (i : Nat) (a : Ac) : Prop := a.k ≠ 9 ∧ ¬ (a.k = 7 ∧ a.a ≤ i) ∧ ¬ (8 ≤ a.k ∧ a.b ≤ i)
theorem stepA_on {a : Ac} {s : AS} (hk : 3 ≤ a.k) (h : FwdA s.i a) : s.i + 1 ≤ (stepA a s).i := by
  obtain ⟨h1, h2, h3⟩ := h
  by_cases e3 : a.k = 3
  · simp [stepA, e3]
  by_cases e4 : a.k = 4
  · simp [stepA, e4]
  by_cases e5 : a.k = 5
  · simp [stepA, e5]
  by_cases e6 : a.k = 6
  · simp [stepA, e6]
  by_cases e7 : a.k = 7
  · have e : (stepA a s).i = a.a.toNat := by simp [stepA, e7]
    rw [e]
    omega
  by_cases e8 : a.k = 8
  · have e : (stepA a s).i = if s.x.m = a.a then a.b.toNat else s.i + 1 := by simp [stepA, e8]
    rw [e]
    split <;> omega
  · have e : (stepA a s).i = if a.a < s.x.l then a.b.toNat else s.i + 1 := by simp [stepA, e3, e4, e5, e6, e7, e8, h1]
    rw [e]
    split <;> omega
theorem doA_through {L : List Ac} (hf : ∀ i a, L[i]? = some a → FwdA i a) (hg : ∀ a ∈ L, 1 ≤ a.k) : ∀ (f : Nat) (s : AS), L.length ≤ s.i + f → (doA L f s).2 ≠ .cycle := by
  intro f
  induction f with
  | zero =>
    intro s h
    unfold doA
    rw [if_neg (by omega)]
    simp
  | succ f ih =>
    intro s h
    by_cases hlt : s.i < L.length
    · by_cases e1 : (L.getD s.i nilA).k = 1
      · rw [doA_on hlt e1]; simp
      by_cases e2 : (L.getD s.i nilA).k = 2
      · rw [doA_off hlt e2]; simp
      rw [doA_step hlt e1 e2]
      have hm := hg _ (List.mem_iff_getElem?.2 ⟨s.i, getD_at hlt⟩)
      have := stepA_on (s := s) (a := L.getD s.i nilA) (by omega) (hf _ _ (getD_at hlt))
      exact ih _ (by omega)
    · rw [doA_end hlt]; simp
theorem getD_set {C : List Int} {i j : Nat} {v : Int} (hj : j < C.length) : (C.set i v).getD j 0 = if j = i then v else C.getD j 0 := by
  rw [List.getD_eq_getElem?_getD, List.getD_eq_getElem?_getD, List.getElem?_set]
  split
  · rename_i e
    subst e
    rw [if_pos rfl, if_pos hj]
    rfl
  · rename_i e
    rw [if_neg (fun h => e h.symm)]
/-- Whatever the counters are, the same happens, and they count the same. -/
theorem doA_add {L : List Ac} (h9 : ∀ a ∈ L, a.k ≠ 9) : ∀ (f i : Nat) (x : It) (B : List Bs), ∃ (i' : Nat) (x' : It) (r : Res) (cnt : Nat → Nat), (∀ j, cnt j ≤ f) ∧ ∀ C : List Int, C.length = 8 → (∀ j, j < 8 → 0 ≤ C.getD j 0 ∧ C.getD j 0 + f ≤ 100000) → ∃ C', doA L f ⟨i, x, C, B⟩ = (⟨i', x', C', B⟩, r) ∧ C'.length = 8 ∧ ∀ j, j < 8 → C'.getD j 0 = C.getD j 0 + cnt j := by
  intro f
  induction f with
  | zero =>
    intro i x B
    by_cases hlt : i < L.length
    · exact ⟨i, x, .cycle, fun _ => 0, fun _ => Nat.le_refl _, fun C hl _ => ⟨C, doA_cycle hlt, hl, fun j _ => by simp⟩⟩
    · exact ⟨i, x, .on, fun _ => 0, fun _ => Nat.le_refl _, fun C hl _ => ⟨C, doA_end hlt 0, hl, fun j _ => by simp⟩⟩
  | succ f ih =>
    intro i x B
    by_cases hlt : i < L.length
    · by_cases e1 : (L.getD i nilA).k = 1
      · exact ⟨i, x, .on, fun _ => 0, fun _ => Nat.zero_le _, fun C hl _ => ⟨C, doA_on (s := ⟨i, x, C, B⟩) hlt e1 f, hl, fun j _ => by simp⟩⟩
      by_cases e2 : (L.getD i nilA).k = 2
      · exact ⟨i, x, .off, fun _ => 0, fun _ => Nat.zero_le _, fun C hl _ => ⟨C, doA_off (s := ⟨i, x, C, B⟩) hlt e2 f, hl, fun j _ => by simp⟩⟩
      have hm := h9 _ (List.mem_iff_getElem?.2 ⟨i, getD_at hlt⟩)
      have hs : ∀ C : List Int, doA L (f + 1) ⟨i, x, C, B⟩ = doA L f (stepA (L.getD i nilA) ⟨i, x, C, B⟩) := fun C => doA_step (s := ⟨i, x, C, B⟩) hlt e1 e2 f
      generalize L.getD i nilA = a at *
      by_cases e6 : a.k = 6
      · obtain ⟨i', x', r, cnt, hc, hA⟩ := ih (i + 1) x B
        refine ⟨i', x', r, fun j => cnt j + if j = a.a.toNat then 1 else 0, fun j => by have := hc j; simp only; split <;> omega, fun C hl hb => ?_⟩
        have e : stepA a ⟨i, x, C, B⟩ = ⟨i + 1, x, C.set a.a.toNat (wrap64 (C.getD a.a.toNat 0 + 1)), B⟩ := by simp [stepA, e6]
        have hg : ∀ j, j < 8 → (C.set a.a.toNat (wrap64 (C.getD a.a.toNat 0 + 1))).getD j 0 = C.getD j 0 + if j = a.a.toNat then 1 else 0 := by
          intro j hj
          rw [getD_set (by rw [hl]; exact hj)]
          split
          · rename_i e'
            have := hb j hj
            rw [← e']
            have := IntKind.wrap_i64 (C.getD j 0 + 1)
            unfold wrap64
            omega
          · omega
        obtain ⟨C', h1, h2, h3⟩ := hA (C.set a.a.toNat (wrap64 (C.getD a.a.toNat 0 + 1))) (by rw [List.length_set]; exact hl) (fun j hj => by
          have := hb j hj
          rw [hg j hj]
          split <;> omega)
        refine ⟨C', by rw [hs, e]; exact h1, h2, fun j hj => ?_⟩
        rw [h3 j hj, hg j hj]
        simp only
        split <;> omega
      · obtain ⟨i1, x1, hst⟩ : ∃ i1 x1, ∀ C : List Int, stepA a ⟨i, x, C, B⟩ = ⟨i1, x1, C, B⟩ := by
          by_cases e3 : a.k = 3
          · exact ⟨_, _, fun C => by simp [stepA, e3]; exact ⟨rfl, rfl⟩⟩
          by_cases e4 : a.k = 4
          · exact ⟨_, _, fun C => by simp [stepA, e4]; exact ⟨rfl, rfl⟩⟩
          by_cases e5 : a.k = 5
          · exact ⟨_, _, fun C => by simp [stepA, e5]; exact ⟨rfl, rfl⟩⟩
          by_cases e7 : a.k = 7
          · exact ⟨_, _, fun C => by simp [stepA, e7]; exact ⟨rfl, rfl⟩⟩
          by_cases e8 : a.k = 8
          · exact ⟨_, _, fun C => by simp [stepA, e8]; exact ⟨rfl, rfl⟩⟩
          · exact ⟨_, _, fun C => by simp [stepA, e3, e4, e5, e6, e7, e8, hm]; exact ⟨rfl, rfl⟩⟩
        obtain ⟨i', x', r, cnt, hc, hA⟩ := ih i1 x1 B
        refine ⟨i', x', r, cnt, fun j => by have := hc j; omega, fun C hl hb => ?_⟩
        obtain ⟨C', h1, h2, h3⟩ := hA C hl (fun j hj => by have := hb j hj; omega)
        exact ⟨C', by rw [hs, hst]; exact h1, h2, h3⟩
    · exact ⟨i, x, .on, fun _ => 0, fun _ => Nat.zero_le _, fun C hl _ => ⟨C, doA_end (s := ⟨i, x, C, B⟩) hlt (f + 1), hl, fun j _ => by simp⟩⟩
/-- What Do does with a packet, whenever. -/
def errV0 (E : Int) : Value := if E = 0 then .nilIface else .iface 34 (.int .i64 E)
def DoSame (L : List Ac) (x y : It) (on : Bool) (E : Int) (cnt : Nat → Nat) : Prop := ∀ (w : World) (H0 pb : Nat) (av bv : Value) (ps : List Nat) (C : List Int), PrAt w H0 pb av bv ps L C [] → (∀ j, j < 8 → 0 ≤ C.getD j 0 ∧ C.getD j 0 ≤ 1000) → Calls Tryd.prog 7 #[.pointer (some ⟨pb, 0, none⟩), .agg x.cells] w fun e w' => e = .returned (.tuple #[.agg y.cells, .bool on, errV0 E]) ∧ ∃ C', PrAt w' H0 pb av bv ps L C' [] ∧ (∀ j, j < 8 → C'.getD j 0 = C.getD j 0 + cnt j) ∧ Ot (fun k => k = pb ∨ k ∈ ps) w w'
theorem do_same (L : List Ac) (x : It) (hg : GoodA L 0) (hf : ∀ i a, L[i]? = some a → FwdA i a) : ∃ (y : It) (on : Bool) (E : Int) (cnt : Nat → Nat), (E = 0 ∨ E = 2) ∧ (∀ j, cnt j ≤ 100) ∧ DoSame L x y on E cnt := by
  cases hx : x.ok with
  | false =>
    refine ⟨⟨0, 0, 0, 0, 0⟩, false, 2, fun _ => 0, Or.inr rfl, fun _ => Nat.zero_le _, fun w H0 pb av bv ps C h hb => ?_⟩
    refine (do_bad _ w hx).mono ?_
    rintro e w' ⟨rfl, hb'⟩
    exact ⟨rfl, C, h.below hb', fun j _ => by simp, Ot.of_below hb'⟩
  | true =>
    obtain ⟨i', x', r, cnt, hc, hA⟩ := doA_add (L := L) (fun a ha => by
      obtain ⟨i, hi⟩ := List.mem_iff_getElem?.1 ha
      exact (hf i a hi).1) 100 0 x []
    have hr : r ≠ .cycle := by
      obtain ⟨C', h1, _⟩ := hA (List.replicate 8 0) (by simp) (fun j hj => by rw [List.getD_eq_getElem?_getD, List.getElem?_replicate]; rw [if_pos hj]; simp)
      have := doA_through hf (fun a ha => (flawA_zero (hg.fine a ha)).1.1.1) 100 ⟨0, x, List.replicate 8 0, []⟩ (by have := hg.len; simp only; omega)
      rw [h1] at this
      exact this
    refine ⟨x', resB r, 0, cnt, Or.inl rfl, hc, fun w H0 pb av bv ps C h hb => ?_⟩
    obtain ⟨C', h1, h2, h3⟩ := hA C h.cl (fun j hj => by have := hb j hj; omega)
    refine (do_any h hx hg).mono ?_
    rw [h1]
    rintro e w' ⟨rfl, hp, ho⟩
    refine ⟨?_, C', hp, h3, ho⟩
    cases r with
    | on => rfl
    | off => rfl
    | cycle => exact absurd rfl hr
end Go.Proofs.YtnoppfgikanebaaDoor
