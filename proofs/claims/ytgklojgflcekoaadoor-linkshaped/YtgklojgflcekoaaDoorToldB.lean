/-
  Rows of bools in memory. Nothing is claimed here by itself.
-/
import Derived.Test.YtgklojgflcekoaaDoorBk1
namespace Go.Proofs.YtgklojgflcekoaaDoor
open Go.RowKit Go.Extern.Stop Go.Stop Go.Extern

theorem infoB : (Tryd.prog.info? 4).map (fun i => (i.zero, i.size, i.bytes)) = some (some (.bool false), 1, 1) := by kernel_rfl

/-- What each returned, up to k. -/
def toldB (r : Nat → Bool) (k : Nat) : List Value := (List.range k).map fun j => .bool (r j)
theorem toldB_succ (r : Nat → Bool) (k : Nat) : toldB r (k + 1) = toldB r k ++ [.bool (r k)] := by simp [toldB, List.range_succ]
theorem toldB_at (r : Nat → Bool) (k j : Nat) (h : j < k) : (toldB r k)[j]? = some (.bool (r j)) := by simp [toldB, h]

/-- A row of bools in memory. -/
def RowB (w : World) (g : Nat) (n : Nat) (r : Nat → Bool) : Prop := ∀ j, j < n → w.cell? ⟨g, j, none⟩ = some (.bool (r j))
theorem RowB.kept {w w' : World} {g n : Nat} {r : Nat → Bool} {S : Nat → Prop} (h : RowB w g n r) (ho : Oth S w w') (hs : ¬ S g) : RowB w' g n r := fun j hj => by
  rw [ho.cell (p := ⟨g, j, none⟩) (lt_of_cell (h j hj)) hs]; exact h j hj
theorem rowB_of_owns {w : World} {B g n cap : Nat} {r : Nat → Bool} (h : w.ownsRow B 4 1 (.slice (some ⟨g, 0, none⟩) n cap) n (toldB r n)) : RowB w g n r := by
  intro j hj
  rcases h.2 with ⟨hc, _⟩ | ⟨g', cap', cur, hv, hg, hh, hn, _, hs, ht⟩
  · simp at hc
  · simp only [Value.slice.injEq, Option.some.injEq, Addr.mk.injEq, and_true, true_and] at hv
    obtain ⟨rfl, rfl⟩ := hv
    have hsz : j < cur.size := by omega
    have h1 : cur.toList[j]? = some (.bool (r j)) := by
      have := toldB_at r n j hj
      rw [← ht, List.getElem?_take, if_pos (by omega)] at this
      exact this
    simp only [World.cell?, hh]
    simpa using h1
end Go.Proofs.YtgklojgflcekoaaDoor
