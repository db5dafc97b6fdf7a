/-
  millracekeep.pick; steps and their times. Conditions: small numbers.
-/
import Derived.Test.YtkagmddckglkdaaDoorPl
namespace Go.Proofs.YtkagmddckglkdaaDoor
open Go.RowKit Go.Extern.Stop Go.Stop Go.Extern

theorem timesL_get {xs : List Stp} {i : Nat} {st : Stp} (h : (timesL 0 xs)[i]? = some st) (hn : xs.length ≤ 1000) : st.a = st.lt ∧ nowAt 0 xs i ≤ st.lt ∧ 0 ≤ nowAt 0 xs i ∧ st.lt ≤ 1000000 ∧ st.lt = nowAt 0 xs (i + 1) ∧ (st.what = 0 → It.ok ⟨st.a, st.l, st.f, st.b, st.m⟩ = true) := by
  have hi := (List.getElem?_eq_some_iff.1 h).1
  rw [timesL_length] at hi
  obtain ⟨y, hy⟩ : ∃ y, xs[i]? = some y := ⟨_, List.getElem?_eq_getElem hi⟩
  rw [timesL_at hy] at h
  obtain rfl := Option.some.inj h
  have h1 := nowAt_succ (t := 0) hy
  have h2 := later_le y
  have h3 := nowAt_le 0 xs i
  have h4 := nowAt_le 0 xs (i + 1)
  exact ⟨rfl, by show nowAt 0 xs i ≤ nowAt 0 xs (i + 1); omega, by omega, by show nowAt 0 xs (i + 1) ≤ _; omega, rfl, fun h0 => timed_ok (t := nowAt 0 xs (i + 1)) (s := y) h0⟩
def pickN (a n : Int) : Int := (a % 18446744073709551616) % n
theorem pickN_bd (a n : Int) (h : 1 ≤ n) : 0 ≤ pickN a n ∧ pickN a n < n := ⟨Int.emod_nonneg _ (by omega), Int.emod_lt_of_pos _ (by omega)⟩
theorem pick_any (a m : Int) (w : World) (h0 : 1 ≤ m) (h1 : m ≤ 1000000) : Calls Tryd.prog 17 #[.int .i64 a, .int .i64 m] w fun e w' => e = .returned (.int .i64 (pickN a m)) ∧ w' = w := by
  have hz : ¬ m = 0 := by omega
  have hu : IntKind.u64.wrap m = m := by rw [IntKind.wrap_u64]; omega
  have he : wrap64 ((IntKind.u64.wrap a).tmod m) = pickN a m := by
    unfold pickN
    rw [IntKind.wrap_u64, Int.tmod_eq_emod_of_nonneg (by omega)]
    have h1 := Int.emod_nonneg (a % 18446744073709551616) hz
    have h2 := Int.emod_lt_of_pos (a % 18446744073709551616) (by omega : (0 : Int) < m)
    generalize a % 18446744073709551616 % m = r at *
    unfold wrap64; omega
  have HE : Hid (wrap64 ((IntKind.u64.wrap a).tmod m) = pickN a m) := he
  clear he
  go_enter Tryd.func17, Tryd.ntmps17
  go_wp2
  go_ret
  refine ⟨?_, rfl⟩
  rw [← HE.out]; rfl
end Go.Proofs.YtkagmddckglkdaaDoor
