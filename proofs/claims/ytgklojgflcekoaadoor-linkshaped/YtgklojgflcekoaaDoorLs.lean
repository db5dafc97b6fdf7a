/-
  plain.Play's closure: the numbers of packets are put behind what was lost. Conditions: the packets and what was seen lie in memory, apart.
-/
import Derived.Test.YtgklojgflcekoaaDoorQd
import Derived.Test.YtgklojgflcekoaaDoorTm
namespace Go.Proofs.YtgklojgflcekoaaDoor
open Go.RowKit Go.Extern.Stop Go.Stop Go.Extern

theorem infoInt1 : (Tryd.prog.info? 3).map (fun i => (i.zero, i.size, i.bytes)) = some (some (.int .i64 0), 1, 8) := by kernel_rfl
/-- Ints lie in a slice of the call's own. -/
def Ins (w : World) (v : Value) (l : List Int) : Prop := Seg w 3 1 v l.length (l.map (Value.int .i64))
theorem Ins.nil (w : World) : Ins w (.slice none 0 0) [] := Seg.nil _ _ _
theorem Lies.held {w : World} {x : Option Addr} {L : List Hd} (h : Lies w x (flt Hd.cs L)) {k : Nat} {s : Hd} (hk : L[k]? = some s) : ∃ b off, x = some ⟨b, off, none⟩ ∧ b < w.heap.size ∧ w.cell? ⟨b, off + k * 6, none⟩ = some (.int .i64 s.a) ∧ w.cell? ⟨b, off + k * 6 + 1, none⟩ = some (.int .i64 s.l) ∧ w.cell? ⟨b, off + k * 6 + 2, none⟩ = some (.int .i64 s.f) ∧ w.cell? ⟨b, off + k * 6 + 3, none⟩ = some (.int .i64 s.b) ∧ w.cell? ⟨b, off + k * 6 + 4, none⟩ = some (.int .i64 s.m) ∧ w.cell? ⟨b, off + k * 6 + 5, none⟩ = some (.int .i64 s.n) := by
  have hat : ∀ j, j < 6 → (flt Hd.cs L)[k * 6 + j]? = s.cs[j]? := fun j hj => flt_at Hd.cs 6 Hd.len hk hj
  rcases h with h | ⟨b, off, e, hl, h⟩
  · have := hat 0 (by omega)
    rw [h] at this
    simp [Hd.cs] at this
  · refine ⟨b, off, e, hl, ?_, ?_, ?_, ?_, ?_, ?_⟩
    · exact h _ _ (hat 0 (by omega))
    · exact h _ _ (hat 1 (by omega))
    · exact h _ _ (hat 2 (by omega))
    · exact h _ _ (hat 3 (by omega))
    · exact h _ _ (hat 4 (by omega))
    · exact h _ _ (hat 5 (by omega))
/-- The numbers of the first k packets. -/
def nums (L : List Hd) (k : Nat) : List Int := (L.take k).map Hd.n
theorem nums_succ {L : List Hd} {k : Nat} {s : Hd} (h : L[k]? = some s) : nums L (k + 1) = nums L k ++ [s.n] := by
  unfold nums
  rw [List.take_add_one, h]
  simp
theorem nums_all (L : List Hd) : nums L L.length = L.map Hd.n := by simp [nums]
theorem nums_length {L : List Hd} {k : Nat} (h : k ≤ L.length) : (nums L k).length = k := by simp [nums]; omega

end Go.Proofs.YtgklojgflcekoaaDoor
