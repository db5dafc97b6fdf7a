/-
  LINDLEY: the law LinkWaits, where the run goes. Conditions: what errors and strconv have laid; rate and packets that may be.
-/
import Derived.Test.YticplgdfgckicaaGreatDoorLw5
namespace Go.Proofs.YticplgdfgckicaaGreatDoor
open Go.RowKit Go.Extern.Stop Go.Stop Go.Extern

theorem dlK_lt {a s2 : Nat → Int} : ∀ {m i : Nat}, i < m → dlK a (fun i => (i : Int)) s2 m i = wrap64 (s2 i - a i)
  | m + 1, i, h => by
    unfold dlK
    by_cases e : m = i
    · subst e; rw [if_pos rfl]
    · rw [if_neg (by omega)]; exact dlK_lt (by omega)
theorem dlK_ge {a s2 : Nat → Int} : ∀ {m i : Nat}, m ≤ i → dlK a (fun i => (i : Int)) s2 m i = -1
  | 0, _, _ => rfl
  | m + 1, i, h => by
    unfold dlK
    rw [if_neg (by omega)]; exact dlK_ge (by omega)
theorem come_of {w : World} {x : Option Addr} {items : List It} (h : ItemsAt w x items) : ComeD w x items.length (fun i => (items.getD i it0).a) := by
  rcases h with rfl | ⟨b, off, rfl, h⟩
  · exact Or.inl rfl
  · by_cases hl : items.length = 0
    · exact Or.inl hl
    · have hg : ∀ i, i < items.length → items[i]? = some (items.getD i it0) := fun i hi => by rw [List.getD_eq_getElem?_getD, List.getElem?_eq_getElem hi]; rfl
      exact Or.inr ⟨b, off, rfl, lt_of_cell (h 0 _ (hg 0 (by omega))).1, fun i hi => (h i _ (hg i hi)).1⟩
theorem sent_of {w : World} {y : Option Addr} {c m : Nat} {ss : List Snt} {s1 s2 : Nat → Int} (hm : ss.length = m) (h : Seg w 35 4 (.slice y m c) m (flt Snt.cs ss)) (hs : ∀ (i : Nat) (s : Snt), ss[i]? = some s → s.n = (i : Int) ∧ s.f = s1 i ∧ s.t = s2 i) : SentD w y m (fun i => (i : Int)) s1 s2 (fun i => (ss.getD i snt0).m) := by
  by_cases h0 : m = 0
  · exact Or.inl h0
  · obtain ⟨b, off, cap, he, _, _, hb, hc⟩ := h.some (by omega)
    simp only [Value.slice.injEq] at he
    refine Or.inr ⟨b, off, he.1, hb, fun i hi => ?_⟩
    obtain ⟨s, hsi⟩ : ∃ s, ss[i]? = some s := ⟨_, List.getElem?_eq_getElem (by omega)⟩
    obtain ⟨e0, e1, e2⟩ := hs i s hsi
    have e3 : ss.getD i snt0 = s := by rw [List.getD_eq_getElem?_getD, hsi]; rfl
    have hat : ∀ j, j < 4 → (flt Snt.cs ss)[i * 4 + j]? = (Snt.cs s)[j]? := fun j hj => flt_at Snt.cs 4 Snt.len hsi hj
    refine ⟨?_, ?_, ?_, ?_⟩
    · show w.cell? _ = some (.int .i64 (i : Int))
      rw [← e0]; exact hc (i * 4 + 0) _ ((hat 0 (by omega)).trans rfl)
    · rw [← e1]; exact hc (i * 4 + 1) _ ((hat 1 (by omega)).trans rfl)
    · rw [← e2]; exact hc (i * 4 + 2) _ ((hat 2 (by omega)).trans rfl)
    · show w.cell? _ = some (.int .i64 (ss.getD i snt0).m)
      rw [e3]; exact hc (i * 4 + 3) _ ((hat 3 (by omega)).trans rfl)
theorem frA_bd {items : List It} {n t : Int} (hr : okRate n t = true) (hf : ∀ x ∈ items, 0 ≤ x.a ∧ x.a ≤ 1000000000) : ∀ m, 0 ≤ frA items n t m ∧ frA items n t m ≤ 1000000000 + 1000001000000 * m := by
  intro m
  induction m with
  | zero => exact ⟨Int.le_refl _, by show (0 : Int) ≤ _; omega⟩
  | succ m ih =>
    have ha : 0 ≤ (items.getD m it0).a ∧ (items.getD m it0).a ≤ 1000000000 := by
      by_cases h : m < items.length
      · have : items.getD m it0 ∈ items := by rw [List.getD_eq_getElem?_getD, List.getElem?_eq_getElem h]; exact List.getElem_mem _
        exact hf _ this
      · rw [List.getD_eq_getElem?_getD, List.getElem?_eq_none (by omega)]; exact ⟨Int.le_refl _, by decide⟩
    have htk := tkL_le (x := (items.getD m it0).l) hr
    show 0 ≤ max _ _ + _ ∧ max _ _ + _ ≤ _
    omega
end Go.Proofs.YticplgdfgckicaaGreatDoor
