/-
  fair.Hashed: what holds of it, and that Put and Take keep it. Mathematics alone.
-/
import Derived.Test.YtefflbibacmboaaDoorHy
import Derived.Test.YtefflbibacmboaaDoorFn
namespace Go.Proofs.YtefflbibacmboaaDoor
open Go.RowKit Go.Extern.Stop Go.Stop Go.Extern

/-- What holds of a Hashed. -/
structure HaI (p : HaC) (s : HaS) : Prop where
  tin : ∀ m ∈ s.tn, 0 ≤ m ∧ m < 64
  tnd : s.tn.Nodup
  tfl : ∀ f : Nat, f < 64 → ((f : Int) ∈ s.tn ↔ s.fl f ≠ [])
  ok : ∀ f, f < 64 → ∀ x ∈ s.fl f, x.ok = true ∧ whereN p x.f = (f : Int)
theorem HaI.zero (p : HaC) : HaI p ha0 := ⟨by simp [ha0], by simp [ha0], by simp [ha0], by simp [ha0]⟩
theorem HaI.into {p : HaC} {s : HaS} {x : Hd} (h : HaI p s) (hm0 : 1 ≤ p.many) (hm1 : p.many ≤ 64) (hok : x.ok = true) : HaI p (intoH p s x) := by
  have hw := whereN_bd hm0 x.f
  obtain ⟨f, hf⟩ : ∃ f : Nat, whereN p x.f = f := ⟨(whereN p x.f).toNat, by omega⟩
  have hf64 : f < 64 := by omega
  unfold intoH
  rw [hf, Int.toNat_natCast]
  have hok' : ∀ g, g < 64 → ∀ y ∈ updF s.fl f (s.fl f ++ [x]) g, y.ok = true ∧ whereN p y.f = (g : Int) := by
    intro g hg y hy
    by_cases e : g = f
    · subst e
      rw [updF_same] at hy
      rcases List.mem_append.1 hy with h1 | h1
      · exact h.ok g hg y h1
      · simp at h1; subst h1; exact ⟨hok, hf⟩
    · rw [updF_ne e] at hy; exact h.ok g hg y hy
  cases he : s.fl f with
  | nil =>
    have hnin : (f : Int) ∉ s.tn := fun hm => (h.tfl f hf64).1 hm he
    simp only [List.isEmpty_nil, if_true]
    rw [he] at hok'
    refine ⟨fun m hm => ?_, ?_, fun g hg => ?_, hok'⟩
    · rcases List.mem_append.1 hm with h1 | h1
      · exact h.tin m h1
      · simp at h1; omega
    · show (s.tn ++ [(f : Int)]).Nodup
      rw [List.nodup_append]
      exact ⟨h.tnd, by simp, fun a ha b hb e => by simp at hb; subst hb; subst e; exact hnin ha⟩
    · show (g : Int) ∈ s.tn ++ [(f : Int)] ↔ updF s.fl f ([] ++ [x]) g ≠ []
      by_cases e : g = f
      · subst e; rw [updF_same]; simp
      · rw [updF_ne e, ← h.tfl g hg]; simp; omega
  | cons y L =>
    simp only [List.isEmpty_cons, Bool.false_eq_true, if_false]
    rw [he] at hok'
    refine ⟨h.tin, h.tnd, fun g hg => ?_, hok'⟩
    show (g : Int) ∈ s.tn ↔ updF s.fl f (y :: L ++ [x]) g ≠ []
    by_cases e : g = f
    · subst e; rw [updF_same, h.tfl g hg, he]; simp
    · rw [updF_ne e]; exact h.tfl g hg
/-- A list loses some of its packets; if all, its turn goes too. -/
theorem HaI.less {p : HaC} {s : HaS} (h : HaI p s) {f : Nat} (hf : f < 64) {L : List Hd} {t : List Int} (hL : ∀ y ∈ L, y ∈ s.fl f) (hne : s.fl f ≠ []) (ht : t.Nodup) (hm : ∀ m, m ∈ t ↔ (m ∈ s.tn ∧ (m = (f : Int) → L ≠ []))) : HaI p { fl := updF s.fl f L, tn := t } where
  tin := fun m hm' => h.tin m ((hm m).1 hm').1
  tnd := ht
  tfl := fun g hg => by
    show (g : Int) ∈ t ↔ updF s.fl f L g ≠ []
    rw [hm, h.tfl g hg]
    by_cases e : g = f
    · subst e; rw [updF_same]
      exact ⟨fun h1 => h1.2 rfl, fun h1 => ⟨hne, fun _ => h1⟩⟩
    · rw [updF_ne e]
      exact ⟨fun h1 => h1.1, fun h1 => ⟨h1, fun e2 => absurd (by omega : g = f) e⟩⟩
  ok := fun g hg y hy => by
    have hy' : y ∈ updF s.fl f L g := hy
    by_cases e : g = f
    · subst e; rw [updF_same] at hy'; exact h.ok g hg y (hL y hy')
    · rw [updF_ne e] at hy'; exact h.ok g hg y hy'
theorem HaI.take {p : HaC} {s : HaS} (h : HaI p s) : HaI p (takeH s).1 := by
  unfold takeH
  cases ht : s.tn with
  | nil => simpa using h
  | cons m B =>
    simp only
    have hm := h.tin m (by rw [ht]; simp)
    obtain ⟨f, hf⟩ : ∃ f : Nat, m = f := ⟨m.toNat, by omega⟩
    subst hf
    rw [Int.toNat_natCast]
    have hf64 : f < 64 := by omega
    have hnd := h.tnd
    rw [ht, List.nodup_cons] at hnd
    cases hL : s.fl f with
    | nil => simpa using h
    | cons x L =>
      simp only
      rw [if_pos hf64]
      refine h.less hf64 (fun y hy => by rw [hL]; exact List.mem_cons_of_mem _ hy) (by rw [hL]; simp) ?_ (fun m => ?_)
      · split
        · exact hnd.2
        · rw [List.nodup_append]
          exact ⟨hnd.2, by simp, fun a ha b hb e => by simp at hb; subst hb; subst e; exact hnd.1 ha⟩
      · rw [ht]
        cases L with
        | nil =>
          simp only [List.isEmpty_nil, if_true, List.mem_cons, ne_eq, not_true_eq_false, imp_false]
          exact ⟨fun h1 => ⟨Or.inr h1, fun e => hnd.1 (e ▸ h1)⟩, fun h1 => h1.1.resolve_left h1.2⟩
        | cons y L' =>
          simp only [List.isEmpty_cons, Bool.false_eq_true, if_false, List.mem_append, List.mem_cons, List.not_mem_nil, or_false]
          exact ⟨fun h1 => ⟨h1.symm, fun _ => by simp⟩, fun h1 => h1.1.symm⟩
theorem HaI.cut {p : HaC} {s : HaS} (h : HaI p s) (hne : s.fl (longK s.fl 64) ≠ []) : HaI p (cutH s).1 := by
  have hK := longK_lt s.fl 64 (by decide)
  unfold cutH
  generalize longK s.fl 64 = f at *
  have hin := (h.tfl f hK).2 hne
  refine h.less hK (fun y hy => (List.dropLast_sublist _).subset hy) hne ?_ (fun m => ?_)
  · split
    · exact h.tnd.erase _
    · exact h.tnd
  · by_cases hd : (s.fl f).dropLast = []
    · rw [hd]
      simp only [List.isEmpty_nil, if_true, ne_eq, not_true_eq_false, imp_false]
      rw [h.tnd.mem_erase_iff]
      exact ⟨fun h1 => ⟨h1.2, h1.1⟩, fun h1 => ⟨h1.2, h1.1⟩⟩
    · have e : (s.fl f).dropLast.isEmpty = false := by rw [Bool.eq_false_iff]; intro e; exact hd (List.isEmpty_iff.1 e)
      rw [e]
      exact ⟨fun h1 => ⟨h1, fun _ => hd⟩, fun h1 => h1.1⟩
theorem into_keeps {p : HaC} (hm0 : 1 ≤ p.many) (hm1 : p.many ≤ 64) (s : HaS) (x : Hd) : (allF s.fl 64 ++ [x]).Perm (allF (intoH p s x).fl 64) := by
  have hw := whereN_bd hm0 x.f
  obtain ⟨R, h1, h2⟩ := allF_split (fl := s.fl) (N := 64) (show (whereN p x.f).toNat < 64 by omega) (s.fl (whereN p x.f).toNat ++ [x])
  show (allF s.fl 64 ++ [x]).Perm (allF (updF s.fl (whereN p x.f).toNat (s.fl (whereN p x.f).toNat ++ [x])) 64)
  refine (h1.append_right [x]).trans (List.Perm.trans ?_ h2.symm)
  rw [List.append_assoc, List.append_assoc]
  exact List.Perm.append_left _ List.perm_append_comm
theorem snoc_last {L : List Hd} (h : L ≠ []) : L = L.dropLast ++ [lsOr L] := by
  rcases snoc_or L with rfl | ⟨A, x, rfl⟩
  · exact absurd rfl h
  · simp [lsOr]
theorem cut_keeps {s : HaS} (hne : s.fl (longK s.fl 64) ≠ []) : (allF s.fl 64).Perm ([(cutH s).2] ++ allF (cutH s).1.fl 64) := by
  have hK := longK_lt s.fl 64 (by decide)
  show (allF s.fl 64).Perm ([lsOr (s.fl (longK s.fl 64))] ++ allF (updF s.fl (longK s.fl 64) (s.fl (longK s.fl 64)).dropLast) 64)
  generalize longK s.fl 64 = f at *
  obtain ⟨R, h1, h2⟩ := allF_split (fl := s.fl) hK (s.fl f).dropLast
  have h3 := snoc_last hne
  refine h1.trans (List.Perm.trans ?_ (h2.append_left [lsOr (s.fl f)]).symm)
  have e : s.fl f ++ R = (s.fl f).dropLast ++ ([lsOr (s.fl f)] ++ R) := by rw [← List.append_assoc, ← h3]
  rw [e, ← List.append_assoc, ← List.append_assoc]
  exact List.Perm.append_right R List.perm_append_comm
/-- The longest list is not empty where any wait. -/
theorem long_some {fl : Nat → List Hd} {f : Nat} (hf : f < 64) (h : fl f ≠ []) : fl (longK fl 64) ≠ [] := by
  intro e
  have h1 := longK_max fl 64 f hf
  rw [e] at h1
  exact h (List.eq_nil_of_length_eq_zero (by simpa using h1))
theorem into_some {p : HaC} (hm0 : 1 ≤ p.many) (hm1 : p.many ≤ 64) (s : HaS) (x : Hd) : (intoH p s x).fl (longK (intoH p s x).fl 64) ≠ [] := by
  have hw := whereN_bd hm0 x.f
  refine long_some (f := (whereN p x.f).toNat) (by omega) ?_
  show updF s.fl (whereN p x.f).toNat (s.fl (whereN p x.f).toNat ++ [x]) (whereN p x.f).toNat ≠ []
  rw [updF_same]
  simp
theorem putH_keeps {p : HaC} (hm0 : 1 ≤ p.many) (hm1 : p.many ≤ 64) (s : HaS) (x : Hd) : (allF s.fl 64 ++ [x]).Perm ((putH p s x).2 ++ allF (putH p s x).1.fl 64) := by
  unfold putH
  split
  · exact into_keeps hm0 hm1 s x
  · exact (into_keeps hm0 hm1 s x).trans (cut_keeps (into_some hm0 hm1 s x))
theorem takeH_fl (s : HaS) : ((takeH s).2.2.2 = false ∧ (takeH s).1.fl = s.fl ∧ (takeH s).2.1 = []) ∨ ∃ f x L, f < 64 ∧ s.fl f = x :: L ∧ (takeH s).1.fl = updF s.fl f L ∧ (takeH s).2 = ([], x, true) := by
  unfold takeH
  cases ht : s.tn with
  | nil => exact Or.inl ⟨rfl, rfl, rfl⟩
  | cons m B =>
    simp only
    cases hL : s.fl m.toNat with
    | nil => exact Or.inl ⟨rfl, rfl, rfl⟩
    | cons x L =>
      simp only
      split
      · rename_i hm
        exact Or.inr ⟨m.toNat, x, L, hm, hL, rfl, rfl⟩
      · exact Or.inl ⟨rfl, rfl, rfl⟩
end Go.Proofs.YtefflbibacmboaaDoor
