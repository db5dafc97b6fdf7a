/-
  HtbCeils: the law's walk, for any classes, any room and any steps. Conditions: the classes and the steps lie in memory; errors.errorType is laid.
-/
import Derived.Test.YtpgdocmpbeabpaaDoorZtt
namespace Go.Proofs.YtpgdocmpbeabpaaDoor
open Go.RowKit Go.Extern.Stop Go.Stop Go.Extern

theorem ceils_any (l : List HCl) (px : Option Addr) (cap : Nat) (room : Int) (x : Option Addr) (xcap : Nat) (xs : List Stp) (w : World) (hA : ArgAt HCl.cs w px l) (hl : Lies w x (flt Stp.cs xs)) (hL : Laid w) (hn : l.length ≤ maxLen) (hm : xs.length ≤ maxLen) :
    Calls Tryd.prog 3 #[.slice px l.length cap, .int .i64 room, .slice x xs.length xcap] w fun e w' => e = .returned (.bool true) ∧ Below w.heap.size w w' := by
  by_cases hlong : 120 < xs.length ∨ 20 < l.length
  · exact ceils_long _ _ _ _ _ _ _ _ hn hm hlong
  · have h1 : xs.length ≤ 120 := by omega
    have h2 : l.length ≤ 20 := by omega
    have hC := hnew_any l px cap room w hA hL hn
    by_cases hok : OkH l ∧ 0 ≤ room ∧ room ≤ 1000000
    · exact ceils_yes l px cap room x xcap xs w hA hl hL h1 hok.1 (hC.mono (by
        rintro e w' ⟨hb, ⟨h, _⟩ | ⟨_, K, h3, h4⟩⟩
        · exact absurd hok h
        · exact ⟨hb, K, h3, h4⟩))
    · by_cases hok2 : OkH l
      · have hroom : ¬ (0 ≤ room ∧ room ≤ 1000000) := fun h => hok ⟨hok2, h⟩
        exact ceils_no _ _ _ _ _ _ _ _ h2 h1 hL (hC.mono (by
          rintro e w' ⟨hb, ⟨_, h⟩ | ⟨_, K, h3, h4⟩⟩
          · exact ⟨hb, h⟩
          · exact absurd (by have h5 := h4.out.ok.room; rw [h4.out.room] at h5; exact h5) hroom))
      · exact ceils_no _ _ _ _ _ _ _ _ h2 h1 hL (hC.mono (by
          rintro e w' ⟨hb, ⟨_, h⟩ | ⟨h, _⟩⟩
          · exact ⟨hb, h⟩
          · exact absurd h hok2))
end Go.Proofs.YtpgdocmpbeabpaaDoor
