/-
  Rows of ints in memory. Nothing is claimed here by itself.
-/
import Derived.Test.YtbghhnafpflmdabDoorBk1
namespace Go.Proofs.YtbghhnafpflmdabDoor
open Go.RowKit Go.Extern.Stop Go.Stop Go.Extern

theorem infoI : (Tryd.prog.info? 3).map (fun i => (i.zero, i.size, i.bytes)) = some (some (.int .i64 0), 1, 8) := by kernel_rfl

/-- What each returned, up to k. -/
def toldI (r : Nat → Int) (k : Nat) : List Value := (List.range k).map fun j => .int .i64 (r j)
theorem toldI_succ (r : Nat → Int) (k : Nat) : toldI r (k + 1) = toldI r k ++ [.int .i64 (r k)] := by simp [toldI, List.range_succ]
theorem toldI_at (r : Nat → Int) (k j : Nat) (h : j < k) : (toldI r k)[j]? = some (.int .i64 (r j)) := by simp [toldI, h]

/-- A row of ints in memory. -/
def RowI (w : World) (g : Nat) (n : Nat) (r : Nat → Int) : Prop := ∀ j, j < n → w.cell? ⟨g, j, none⟩ = some (.int .i64 (r j))
theorem RowI.kept {w w' : World} {g n : Nat} {r : Nat → Int} {S : Nat → Prop} (h : RowI w g n r) (ho : Oth S w w') (hs : ¬ S g) : RowI w' g n r := fun j hj => by
  rw [ho.cell (p := ⟨g, j, none⟩) (lt_of_cell (h j hj)) hs]; exact h j hj
theorem rowI_of_owns {w : World} {B g n cap : Nat} {r : Nat → Int} (h : w.ownsRow B 3 1 (.slice (some ⟨g, 0, none⟩) n cap) n (toldI r n)) : RowI w g n r := by
  intro j hj
  rcases h.2 with ⟨hc, _⟩ | ⟨g', cap', cur, hv, hg, hh, hn, _, hs, ht⟩
  · simp at hc
  · simp only [Value.slice.injEq, Option.some.injEq, Addr.mk.injEq, and_true, true_and] at hv
    obtain ⟨rfl, rfl⟩ := hv
    have hsz : j < cur.size := by omega
    have h1 : cur.toList[j]? = some (.int .i64 (r j)) := by
      have := toldI_at r n j hj
      rw [← ht, List.getElem?_take, if_pos (by omega)] at this
      exact this
    simp only [World.cell?, hh]
    simpa using h1
end Go.Proofs.YtbghhnafpflmdabDoor
