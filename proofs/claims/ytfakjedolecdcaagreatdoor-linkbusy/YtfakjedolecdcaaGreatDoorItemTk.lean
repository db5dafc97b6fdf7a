/-
  item.Takes: what it returns at every rate that may be and up to a million bytes. Conditions: integers are of 64 bits.
-/
import Derived.Test.YtfakjedolecdcaaGreatDoorGa
namespace Go.Proofs.YtfakjedolecdcaaGreatDoor
open Go.RowKit Go.Extern.Stop Go.Stop Go.Extern

/-- So many bytes at n in t ticks, rounded up. -/
def takes (n t x : Int) : Int := (x * t + n - 1) / n

theorem takes_yes (n t x : Int) (w : World) (h : okRate n t = true) (hx0 : 0 ≤ x) (hx1 : x ≤ 1000000) :
    Calls Tryz.prog 14 #[.agg #[.int .i64 n, .int .i64 t], .int .i64 x] w fun e w' => e = .returned (.int .i64 (takes n t x)) ∧ w' = (w.alloc (.cells #[.int .i64 n, .int .i64 t] 37)).alloc (.cells #[.int .i64 n, .int .i64 t] 37) := by
  have hh : okRate n t = true := h
  simp only [okRate, Bool.and_eq_true, wth_iff] at hh
  obtain ⟨⟨h1, h2⟩, h3, h4⟩ := hh
  have H : Hid (okRate n t = true) := h
  clear h
  have hw : wth x 0 1000000 = true := wth_iff.2 ⟨hx0, hx1⟩
  have hp0 : 0 ≤ x * t := Int.mul_nonneg hx0 (by omega)
  have hp1 : x * t ≤ 1000000000000 := by
    have := Int.mul_le_mul hx1 h4 (by omega) (by omega : (0 : Int) ≤ 1000000)
    omega
  go_enter Tryz.func14, Tryz.ntmps14
  go_wp2_with (first | (go_at_call 28; refine (speed_yes _ _ _ H.out).mono ?_; rintro e w' ⟨rfl, rfl⟩) | (go_at_call 29; refine (within_any _ _ _ _).mono ?_; rintro e w' ⟨rfl, rfl⟩))
  go_ret
  exact ⟨by simp [takes], rfl⟩
end Go.Proofs.YtfakjedolecdcaaGreatDoor
