/-
  item.List of a slice of packets, wherever it lies. Conditions: errors.errorType holds its handle; the packets lie in memory.
-/
import Derived.Test.YtpgdocmpbeabpaaDoorList
namespace Go.Proofs.YtpgdocmpbeabpaaDoor
open Go.RowKit Go.Extern.Stop Go.Stop Go.Extern

/-- A slice of packets, wherever it lies. -/
def ItemsAt (w : World) (x : Option Addr) (xs : List It) : Prop := xs = [] ∨ ∃ b off, x = some ⟨b, off, none⟩ ∧ Items w b off xs
theorem ItemsAt.below {w w' : World} {x : Option Addr} {xs : List It} (h : ItemsAt w x xs) (hb : Below w.heap.size w w') : ItemsAt w' x xs := by
  rcases h with h | ⟨b, off, h1, h2⟩
  · exact Or.inl h
  · exact Or.inr ⟨b, off, h1, h2.below hb⟩

theorem list_any (x : Option Addr) (cap : Nat) (xs : List It) (w : World) (hL : Laid w) (hI : ItemsAt w x xs) (hm : xs.length ≤ maxLen) :
    Calls Tryd.prog 14 #[.slice x xs.length cap] w fun e w' => ∃ v, e = .returned v ∧ ErrIs w' v (listE xs).1 (listE xs).2 ∧ Below w.heap.size w w' := by
  by_cases hl : 100 < xs.length
  · refine (list_long x _ cap w hl hm).mono ?_
    rintro e w' ⟨rfl, rfl⟩
    rw [listE_long hl]
    exact ⟨_, rfl, Or.inr (Or.inl ⟨rfl, by decide, rfl⟩), Below.refl _ _⟩
  · rcases hI with rfl | ⟨b, off, rfl, hI⟩
    · refine (list_nil x cap w).mono ?_
      rintro e w' ⟨rfl, rfl⟩
      exact ⟨_, rfl, Or.inl ⟨rfl, rfl, rfl⟩, Below.refl _ _⟩
    · by_cases h0 : 0 < xs.length
      · exact list_some b off cap xs w hL hI h0 (by omega)
      · obtain rfl : xs = [] := List.length_eq_zero_iff.1 (by omega)
        refine (list_nil _ cap w).mono ?_
        rintro e w' ⟨rfl, rfl⟩
        exact ⟨_, rfl, Or.inl ⟨rfl, rfl, rfl⟩, Below.refl _ _⟩
end Go.Proofs.YtpgdocmpbeabpaaDoor
