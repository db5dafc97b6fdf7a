/-
  Numbers that lie in memory. Nothing is claimed here by itself.
-/
import Derived.Test.YtefflbibacmboaaDoorTm
namespace Go.Proofs.YtefflbibacmboaaDoor

/-- Numbers that lie in memory. -/
def IRow (w : World) (x : Option Addr) (n : Nat) (f : Nat → Int) : Prop := n = 0 ∨ ∃ b off, x = some ⟨b, off, none⟩ ∧ b < w.heap.size ∧ ∀ i, i < n → w.cell? ⟨b, off + i, none⟩ = some (.int .i64 (f i))
/-- The block of such numbers, if it has any number. -/
def TB (px : Option Addr) (m k : Nat) : Prop := 0 < m ∧ ∃ a, px = some a ∧ a.block = k
theorem tb_lt {w : World} {px : Option Addr} {m k : Nat} {f : Nat → Int} (h : IRow w px m f) (hk : TB px m k) : k < w.heap.size := by
  obtain ⟨h0, a, rfl, rfl⟩ := hk
  rcases h with h | ⟨b, off, e, hb, _⟩
  · omega
  · simp at e; subst e; exact hb
end Go.Proofs.YtefflbibacmboaaDoor
