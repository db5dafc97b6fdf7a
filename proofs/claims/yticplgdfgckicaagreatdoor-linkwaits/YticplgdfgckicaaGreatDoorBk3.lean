/-
  bucket.open: of a bucket that may not be what Check says; of packets that may not be what List says; else a full bucket; nothing that was there before is otherwise. Conditions: errors.errorType holds its handle; the packets lie in memory.
-/
import Derived.Test.YticplgdfgckicaaGreatDoorGi
import Derived.Test.YticplgdfgckicaaGreatDoorGa
import Derived.Shelf.Abstract
namespace Go.Proofs.YticplgdfgckicaaGreatDoor
open Go.RowKit Go.Extern.Stop Go.Stop Go.Extern

/-- Packets that may be. -/
def okL (xs : List It) : Prop := (listE xs).1 = 0
theorem okL.fine {xs : List It} (h : okL xs) : Fine xs ∧ xs.length ≤ 100 := by
  unfold okL at h
  have hl : ¬ 100 < xs.length := fun hl => by rw [listE_long hl] at h; simp at h
  have hf : ∀ j, j < xs.length → faultAt xs j = 0 := by
    intro j hj
    cases hb : firstBad xs with
    | none =>
      unfold firstBad at hb
      simp at hb
      exact hb j hj
    | some i =>
      exfalso
      simp only [listE, hl, if_false, hb] at h
      unfold firstBad at hb
      rw [List.find?_range_eq_some] at hb
      have := hb.1
      simp [h] at this
  refine ⟨fun k x hx => ?_, by omega⟩
  have hk : k < xs.length := (List.getElem?_eq_some_iff.1 hx).1
  have h1 := hf k hk
  have hok : x.ok = true := by
    cases ho : x.ok with
    | true => rfl
    | false => rw [fault_range hx ho] at h1; simp at h1
  have hok' := hok
  simp only [It.ok, Bool.and_eq_true, wth_iff] at hok'
  refine ⟨by omega, fun y hy => ?_⟩
  have hk1 : k + 1 < xs.length := (List.getElem?_eq_some_iff.1 hy).1
  have h2 := hf (k + 1) hk1
  have hoy : y.ok = true := by
    cases ho : y.ok with
    | true => rfl
    | false => rw [fault_range hy ho] at h2; simp at h2
  by_cases hc : y.a < x.a
  · rw [fault_order hy hx hoy hc] at h2; simp at h2
  · omega
theorem okL.nil {w : World} {v : Value} {xs : List It} (h : okL xs) (he : ErrIs w v (listE xs).1 (listE xs).2) : v = .nilIface := by
  rw [show (listE xs).1 = 0 from h] at he
  rcases he with ⟨h, _⟩ | ⟨_, h, _⟩ | ⟨_, _, _, _, h, _⟩
  · exact h
  · exact absurd rfl h
  · exact absurd rfl h
/-- An error that is one is no nil. -/
theorem ErrIs.iface {w : World} {v : Value} {E P : Int} (h : ErrIs w v E P) (hE : E ≠ 0) : ∃ t u, v = .iface t u := by
  rcases h with ⟨_, h, _⟩ | ⟨h, _⟩ | ⟨a, h, _⟩
  · exact absurd h hE
  · exact ⟨_, _, h⟩
  · exact ⟨_, _, h⟩

theorem ItemsAt.lt {w : World} {b off : Nat} {xs : List It} (h : ItemsAt w (some ⟨b, off, none⟩) xs) (h0 : xs ≠ []) : b < w.heap.size := by
  rcases h with h | ⟨b', off', e, hI⟩
  · exact absurd h h0
  · cases e
    obtain ⟨y, hy⟩ : ∃ y, xs[0]? = some y := by
      cases xs with
      | nil => exact absurd rfl h0
      | cons y ys => exact ⟨y, rfl⟩
    exact lt_of_cell (hI 0 y hy).1
end Go.Proofs.YticplgdfgckicaaGreatDoor
