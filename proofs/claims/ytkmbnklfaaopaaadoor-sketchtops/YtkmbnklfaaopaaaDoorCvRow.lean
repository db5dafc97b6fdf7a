/-
  Rows of ints in memory, handed in or made: where they lie, and that they stay there. Nothing is claimed here by itself.
-/
import Derived.Test.YtkmbnklfaaopaaaDoorProg
import Derived.Test.YtkmbnklfaaopaaaDoorCvMath
import Derived.WalkKit
import Derived.RowKitTokens
import Derived.Deep.QuietTactic
import Derived.BigQuiet
import Derived.Deep.RegionHeld3
import Derived.Deep.RegionWith
import Derived.Deep.DeepCutAuto
import Derived.Shelf.Abstract
import Derived.Maps.AppendAt
namespace Go.Proofs.YtkmbnklfaaopaaaDoor
open Go.RowKit Go.Extern.Stop Go.Stop Go.Extern

/-- n ints lie in memory, one behind the other. -/
def Row (w : World) (x : Option Addr) (n : Nat) (f : Nat → Int) : Prop := n = 0 ∨ ∃ b off, x = some ⟨b, off, none⟩ ∧ ∀ i, i < n → w.cell? ⟨b, off + i, none⟩ = some (.int .i64 (f i))
theorem Row.below {w w' : World} {x : Option Addr} {n : Nat} {f : Nat → Int} (h : Row w x n f) (hb : Below w.heap.size w w') : Row w' x n f := by
  rcases h with h | ⟨b, off, e, h⟩
  · exact Or.inl h
  · exact Or.inr ⟨b, off, e, fun i hi => by rw [hb.cell (World.block_lt_of_cell? _ _ (h i hi))]; exact h i hi⟩
theorem Row.alloc {w : World} {x : Option Addr} {n : Nat} {f : Nat → Int} (h : Row w x n f) (o : Obj) : Row (w.alloc o) x n f := h.below ((Below.refl _ _).alloc (Nat.le_refl _) _)
theorem Row.drewN {w : World} {x : Option Addr} {n : Nat} {f : Nat → Int} (h : Row w x n f) (k : Nat) : Row (w.drewN k) x n f := h
theorem Row.congr {w : World} {x : Option Addr} {n : Nat} {f g : Nat → Int} (h : Row w x n f) (he : ∀ i, i < n → f i = g i) : Row w x n g := by
  rcases h with h | ⟨b, off, e, h⟩
  · exact Or.inl h
  · exact Or.inr ⟨b, off, e, fun i hi => by rw [← he i hi]; exact h i hi⟩
theorem Row.take {w : World} {x : Option Addr} {n m : Nat} {f : Nat → Int} (h : Row w x n f) (hm : m ≤ n) : Row w x m f := by
  rcases h with h | ⟨b, off, e, h⟩
  · exact Or.inl (by omega)
  · exact Or.inr ⟨b, off, e, fun i hi => h i (by omega)⟩
theorem Row.at {w : World} {b off n : Nat} {f : Nat → Int} (h : Row w (some ⟨b, off, none⟩) n f) {i : Nat} (hi : i < n) : w.cell? ⟨b, off + i, none⟩ = some (.int .i64 (f i)) := by
  rcases h with h | ⟨b', off', e, h⟩
  · omega
  · cases e; exact h i hi
theorem Row.some {w : World} {x : Option Addr} {n : Nat} {f : Nat → Int} (h : Row w x n f) (hn : 0 < n) : ∃ b off, x = Option.some ⟨b, off, none⟩ := by
  rcases h with h | ⟨b, off, e, h⟩
  · omega
  · exact ⟨b, off, e⟩
/-- Its end, from s on. -/
theorem Row.drop {w : World} {b off n : Nat} {f : Nat → Int} (h : Row w (Option.some ⟨b, off, none⟩) n f) (s : Nat) : Row w (Option.some ⟨b, off + s, none⟩) (n - s) (fun i => f (s + i)) := by
  refine Or.inr ⟨b, off + s, rfl, fun i hi => ?_⟩
  have := h.at (i := s + i) (by omega)
  rwa [← Nat.add_assoc] at this
theorem below_drewN' {B : Nat} {a w : World} (h : Below B a w) (n : Nat) : Below B a (w.drewN n) := h.trans ⟨rfl, rfl, rfl, Nat.le_refl _, fun _ _ => rfl⟩
theorem below_of_drew {w w' : World} {B : Nat} (h : ∃ q, w' = w.drewN q) : Below B w w' := by obtain ⟨q, rfl⟩ := h; exact below_drewN' (Below.refl _ _) q

theorem cell_newest {w : World} {b : Nat} {v : Value} {t : TypeId} (h : b = w.heap.size) : (w.alloc (.cells #[v] t)).cell? ⟨b, 0, none⟩ = some v := by subst h; simp
theorem cell_elder {w : World} {a : Addr} {o : Obj} (h : a.block < w.heap.size) : (w.alloc o).cell? a = w.cell? a := World.cell?_alloc_lt _ _ a h

theorem infoInt : (Tryd.prog.info? 3).map (fun i => (i.zero, i.size, i.bytes)) = some (some (.int .i64 0), 1, 8) := by kernel_rfl
/-- The first k numbers as values. -/
def vals (r : Nat → Int) (k : Nat) : List Value := (List.range k).map fun j => .int .i64 (r j)
theorem vals_succ (r : Nat → Int) (k : Nat) : vals r (k + 1) = vals r k ++ [.int .i64 (r k)] := by simp [vals, List.range_succ]
theorem vals_at (r : Nat → Int) (k j : Nat) (h : j < k) : (vals r k)[j]? = some (.int .i64 (r j)) := by simp [vals, h]
theorem vals_congr {r r' : Nat → Int} {k : Nat} (h : ∀ i, i < k → r i = r' i) : vals r k = vals r' k := by
  unfold vals
  apply List.map_congr_left
  intro i hi
  rw [h i (List.mem_range.1 hi)]
theorem row_of_owns {w : World} {B n : Nat} {v : Value} {r : Nat → Int} (h : w.ownsRow B 3 1 v n (vals r n)) : ∃ x cap, v = .slice x n cap ∧ n ≤ cap ∧ cap ≤ maxLen ∧ Row w x n r := by
  rcases h.2 with ⟨rfl, hn⟩ | ⟨g, cap, cur, rfl, hg, hh, hn, hx, hs, ht⟩
  · refine ⟨none, 0, by rw [hn], by omega, Nat.zero_le _, Or.inl hn⟩
  · refine ⟨_, cap, rfl, hn, hx, Or.inr ⟨g, 0, rfl, fun j hj => ?_⟩⟩
    have h1 : cur.toList[j]? = some (.int .i64 (r j)) := by
      have := vals_at r n j hj
      rw [← ht, List.getElem?_take, if_pos (by omega)] at this
      exact this
    simp only [World.cell?, hh, Nat.zero_add]
    simpa using h1
theorem ownsRow_below {w w' : World} {B n : Nat} {e : TypeId} {k : Nat} {v : Value} {xs : List Value} (h : w.ownsRow B e k v n xs) (hb : Below w.heap.size w w') : w'.ownsRow B e k v n xs := by
  refine ⟨h.1, ?_⟩
  rcases h.2 with h | ⟨g, cap, cur, hv, hg, hh, rest⟩
  · exact Or.inl h
  · refine Or.inr ⟨g, cap, cur, hv, hg, ?_, rest⟩
    rw [hb.block g ?_]
    · exact hh
    · rcases Nat.lt_or_ge g w.heap.size with h | h
      · exact h
      · rw [Array.getElem?_eq_none h] at hh; cases hh
/-- What Check says: nothing, or an error's number. -/
def errV (E : Int) : Value := if E = 0 then .nilIface else .iface 24 (.int .i64 E)
theorem errV_zero : errV 0 = .nilIface := rfl
theorem errV_not {E : Int} (h : E ≠ 0) : errV E = .iface 24 (.int .i64 E) := by unfold errV; rw [if_neg h]
end Go.Proofs.YtkmbnklfaaopaaaDoor
