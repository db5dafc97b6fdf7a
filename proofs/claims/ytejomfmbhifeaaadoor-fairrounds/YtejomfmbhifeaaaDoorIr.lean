/-
  Numbers that lie in memory. Nothing is claimed here by itself.
-/
import Derived.Test.YtejomfmbhifeaaaDoorTm
namespace Go.Proofs.YtejomfmbhifeaaaDoor

/-- Numbers that lie in memory. -/
def IRow (w : World) (x : Option Addr) (n : Nat) (f : Nat → Int) : Prop := n = 0 ∨ ∃ b off, x = some ⟨b, off, none⟩ ∧ b < w.heap.size ∧ ∀ i, i < n → w.cell? ⟨b, off + i, none⟩ = some (.int .i64 (f i))
end Go.Proofs.YtejomfmbhifeaaaDoor
