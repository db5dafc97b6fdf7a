/-
  fair.Hashed: nothing is lost but what is told; each flow keeps its order. Mathematics of the model alone.
-/
import Derived.Test.YtjjchknclpfgiaaHk
import Derived.Test.YtjjchknclpfgiaaFr
namespace Go.Proofs.Ytjjchknclpfgiaa
open Go.RowKit Go.Extern.Stop Go.Stop Go.Extern

theorem hash_keeps (b : Nat) (p : HaC) (hm0 : 1 ≤ p.many) (hm1 : p.many ≤ 64) : (HashM b p).Keeps (fun s => allF s.fl 64) where
  put := fun s _ x => putH_keeps hm0 hm1 s x
  take := fun s _ => takeH_keeps s
  when := fun _ _ => List.Perm.refl _
  len := fun _ => rfl
  bytes := fun _ => rfl
theorem hash_orders (b : Nat) (p : HaC) (hm0 : 1 ≤ p.many) (hm1 : p.many ≤ 64) : (HashM b p).Orders (fun s => allF s.fl 64) where
  put := by
    intro (s : HaS) now x y hy
    have h1 := (putH_keeps hm0 hm1 s x).mem_iff (a := y)
    have h2 : y ∈ allF s.fl 64 ++ [x] := h1.2 (List.mem_append_right _ hy)
    rcases List.mem_append.1 h2 with h | h
    · exact Or.inr h
    · exact Or.inl (by simpa using h)
  take := by
    intro (s : HaS) t n now hI
    show ((takeH s).2.2.2 = true → (takeH s).2.2.1 ∈ allF s.fl 64) ∧ ∀ y ∈ allF (takeH s).1.fl 64, y ∈ allF s.fl 64 ∧ ((takeH s).2.2.2 = true → y.f = (takeH s).2.2.1.f → (takeH s).2.2.1.n < y.n)
    rcases takeH_fl s with ⟨h1, h2, _⟩ | ⟨f, x, L, hf, hL, h2, h3⟩
    · rw [h1, h2]
      exact ⟨fun h => (by cases h), fun y hy => ⟨hy, fun h => (by cases h)⟩⟩
    · rw [h2, h3]
      have hx : x ∈ s.fl f := by rw [hL]; simp
      refine ⟨fun _ => allF_in hf hx, fun y hy => ?_⟩
      obtain ⟨g, hg, hy⟩ := allF_mem hy
      by_cases e : g = f
      · subst e
        rw [updF_same] at hy
        have h4 := (hI.2.2 g hg).1
        rw [hL, List.map_cons, List.pairwise_cons] at h4
        exact ⟨allF_in hg (by rw [hL]; simp [hy]), fun _ _ => h4.1 y.n (List.mem_map.2 ⟨y, hy, rfl⟩)⟩
      · rw [updF_ne e] at hy
        refine ⟨allF_in hg hy, fun _ hyf => ?_⟩
        have h5 := (hI.1.ok g hg y hy).2
        have h6 := (hI.1.ok f hf x hx).2
        have h7 : y.f = x.f := hyf
        rw [h7] at h5
        omega
  when := fun s now y hy => hy
end Go.Proofs.Ytjjchknclpfgiaa
