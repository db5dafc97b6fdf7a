/-
  The reference reads filters: as the program does. Conditions: as FilterRC's.
-/
import Derived.Test.YtibecinojkkjpaaGreatDoorRp8
namespace Go.Proofs.YtibecinojkkjpaaGreatDoor
open Go.RowKit Go.Extern.Stop Go.Stop Go.Extern

theorem filterRC : ∀ d : Nat, FilterRC d := by
  intro d
  induction d with
  | zero =>
    intro b n at' v L ar w h hB hs hL ha hd
    obtain rfl : ar = 20 := by omega
    exact rf_zero w h
  | succ d ih =>
    intro b n at' v L ar w h hB hs hL ha hd
    have har : ar ≤ 19 := by omega
    by_cases h0 : hdW L = [97, 110, 121]
    · rw [read_any_ (by simpa using h0)]
      exact rf_any ar w h har h0
    · by_cases h1 : hdW L = [110, 111, 116]
      · rw [read_not_ (by simpa using h0) (by simpa using h1)]
        exact rf_not ih ar w h hB hs hL ha hd h0 h1
      · by_cases h2 : hdW L = [40]
        · rw [read_grp_ (by simpa using h0) (by simpa using h1) (by simpa using h2)]
          exact rf_grp ih ar w h hB hs hL ha hd h0 h1 h2
        · rw [read_fld_ (by simpa using h0) (by simpa using h1) (by simpa using h2)]
          cases hf : fieldL (hdW L) with
          | none => exact rf_none ar w h (hB w (Ot.refl _ _)) har h0 h1 h2 hf
          | some f => exact rf_fld ar w h hB hs har h0 h1 h2 hf
end Go.Proofs.YtibecinojkkjpaaGreatDoor
