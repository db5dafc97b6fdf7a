/-
  millracelaw.same over strings: like rows are the same. Conditions: both rows lie in memory.
-/
import Derived.Test.YtheadpemckoljaaGreatDoorJj
namespace Go.Proofs.YtheadpemckoljaaGreatDoor
open Go.RowKit Go.Extern.Stop Go.Stop Go.Extern Go.Maps Go.WideMaps

set_option maxRecDepth 100000 in
set_option maxHeartbeats 4000000 in
theorem sameS_any (ss : List (List UInt8)) (v1 v2 : Value) (B1 B2 : Nat) (w : World) (h1 : w.ownsRow B1 9 1 v1 ss.length (ss.map encStr)) (h2 : w.ownsRow B2 9 1 v2 ss.length (ss.map encStr)) (hl : ss.length ≤ 1000) :
    Calls Tryz.prog 17 #[v1, v2] w fun e w' => e = .returned (.bool true) ∧ Below w.heap.size w w' := by
  obtain ⟨x1, n1, rfl⟩ := owns_slice h1
  obtain ⟨x2, n2, rfl⟩ := owns_slice h2
  have HC1 : Hid _ := owns_cells h1
  have HC2 : Hid _ := owns_cells h2
  have hne : ((ss.length : Int) != ss.length) = false := by simp
  clear h1 h2
  go_enter Tryz.func17, Tryz.ntmps17
  go_wp2
  go_loopg [5] ss.length (fun g v5 wx => ∃ i : Nat, i + g = ss.length ∧ v5 = .int .i64 i ∧ ∃ q, wx = w.drewN q)
  case atStart => exact ⟨0, by omega, rfl, 0, rfl⟩
  case round =>
    obtain ⟨i, hig, rfl, q, rfl⟩ := hrel
    by_cases hi : i < ss.length
    · obtain ⟨s, hs⟩ : ∃ s, ss[i]? = some s := ⟨_, List.getElem?_eq_getElem hi⟩
      rcases HC1.out with ⟨_, h0⟩ | ⟨g1, c1, hv1, hc1⟩
      · omega
      rcases HC2.out with ⟨_, h0⟩ | ⟨g2, c2, hv2, hc2⟩
      · omega
      simp only [Value.slice.injEq, true_and] at hv1 hv2
      obtain ⟨rfl, rfl⟩ := hv1
      obtain ⟨rfl, rfl⟩ := hv2
      have e1 : w.cell? ⟨g1, i, none⟩ = some (.string ⟨s.toArray⟩) := hc1 i _ (by rw [List.getElem?_map, hs]; rfl)
      have e2 : w.cell? ⟨g2, i, none⟩ = some (.string ⟨s.toArray⟩) := hc2 i _ (by rw [List.getElem?_map, hs]; rfl)
      have hi1 : (i : Int) < ss.length := by omega
      have hq : (s == s) = true := by simp
      have hq2 : (s != s) = false := by simp
      clear hc1 hc2 hs
      go_wp2
      go_quiet (fail)
      go_wp2
      go_roundg (gk - 1)
      case measure => omega
      case rel => exact ⟨i + 1, by omega, by go_num, _, rfl⟩
    · have hi1 : ¬ (i : Int) < ss.length := by omega
      go_wp2
      go_ret
      exact ⟨rfl, below_drewNj (Below.refl _ _) _⟩
end Go.Proofs.YtheadpemckoljaaGreatDoor
