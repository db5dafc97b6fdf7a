/-
  HtbOwn: the law's walk, for any number of leaves, any rate, any room and any packets. Conditions: the packets lie in memory; errors.errorType is laid.
-/
import Derived.Test.YtpgdocmpbeabpaaDoorZo4
namespace Go.Proofs.YtpgdocmpbeabpaaDoor
open Go.RowKit Go.Extern.Stop Go.Stop Go.Extern

theorem own_any (lv n t R : Int) (px : Option Addr) (cap : Nat) (xs : List It) (w : World) (hI : ItemsAt w px xs) (hL : Laid w) :
    Calls Tryd.prog 4 #[.int .i64 lv, .agg #[.int .i64 n, .int .i64 t], .int .i64 R, .slice px xs.length cap] w fun e w' => e = .returned (.bool true) ∧ Below w.heap.size w w' := by
  by_cases h40 : 40 < xs.length
  · exact own_long lv n t R px cap xs.length w h40 hL
  · by_cases hb : okB n t R
    · by_cases hx : okL xs
      · exact own_yes lv n t R px cap xs w (by omega) hb hx hI hL
      · exact own_nol lv n t R px cap xs w (by omega) hb hx hI hL
    · exact own_nob lv n t R px cap xs.length w (by omega) hb hL
end Go.Proofs.YtpgdocmpbeabpaaDoor
