/-
  millracebig: sum, Add, Sub of whole numbers: what lies behind the call, and what stays. Conditions: numbers below 2^3200.
-/
import Derived.Test.YtebahbcmlhdleaaDoorRat6
namespace Go.Proofs.YtebahbcmlhdleaaDoor
open Go.RowKit Go.Deep

/-- A number with a sign. -/
def sgn (p : Bool) (n : Nat) : Int := if p then -(n : Int) else n

set_option maxHeartbeats 2000000 in
theorem sum_any (p q : Bool) {v1 v2 : Value} {n m : Nat} (w : World) (h1 : NatAt w v1 n) (h2 : NatAt w v2 m) (hn : n < 4294967296 ^ 100) (hm : m < 4294967296 ^ 100) :
    Calls Tryd.prog 76 #[.bool p, v1, .bool q, v2] w fun e w' => ∃ s v k, e = .returned (.tuple #[.bool s, v]) ∧ NatAt w' v k ∧ sgn s k = sgn p n + sgn q m ∧ Below w.heap.size w w' := by
  obtain ⟨x, k, c, rfl, _, _⟩ := h1.form
  obtain ⟨y, l, d, rfl, _, _⟩ := h2.form
  have H1 : Hid (NatAt w (.slice x k c) n) := h1
  have H2 : Hid (NatAt w (.slice y l d) m) := h2
  have HN : Hid (n < 4294967296 ^ 100 ∧ m < 4294967296 ^ 100) := ⟨hn, hm⟩
  clear h1 h2 hn hm
  by_cases hpq : p = q
  · subst hpq
    have e0 : (p == p) = true := by simp
    go_enter Tryd.func76, Tryd.ntmps76
    go_wp2_with fail
    refine (add_any _ H1.out H2.out HN.out.1 HN.out.2).mono ?_
    rintro e w1 ⟨v, rfl, hv, hb⟩
    have HV : Hid (NatAt w1 v (n + m)) := hv
    clear hv
    go_wp2
    go_ret2
    exact ⟨p, v, n + m, rfl, HV.out, by cases p <;> simp [sgn] <;> omega, hb⟩
  · have e0 : (p == q) = false := by simpa using hpq
    have hq : q = !p := by cases p <;> cases q <;> simp_all
    have HPQ : Hid (q = !p) := hq
    clear hq
    clear hpq
    by_cases hle : m ≤ n
    · have hc0 : 0 ≤ cmpOf n m := by unfold cmpOf; rw [if_neg (by omega)]; split <;> omega
      have HC : Hid (0 ≤ cmpOf n m) := hc0
      clear hc0
      have HLE : Hid (m ≤ n) := hle
      go_enter Tryd.func76, Tryd.ntmps76
      go_wp2_with fail
      refine (cmp_any _ H1.out H2.out).mono ?_
      rintro e w1 ⟨rfl, hb1⟩
      have hc : decide (0 ≤ cmpOf n m) = true := by simpa using HC.out
      generalize cmpOf n m = cm at *
      have H1' : Hid (NatAt w1 (.slice x k c) n) := H1.out.below hb1
      have H2' : Hid (NatAt w1 (.slice y l d) m) := H2.out.below hb1
      go_wp2_with fail
      refine (sub_any _ H1'.out H2'.out HN.out.1 HLE.out).mono ?_
      rintro e w2 ⟨v, rfl, hv, hb2⟩
      have HV : Hid (NatAt w2 v (n - m)) := hv
      clear hv
      go_wp2
      go_ret2
      refine ⟨p, v, n - m, rfl, HV.out, ?_, hb1.trans (hb2.mono hb1.size)⟩
      have := HLE.out
      rw [HPQ.out]
      cases p <;> simp [sgn] <;> omega
    · have hc0 : cmpOf n m < 0 := by unfold cmpOf; rw [if_pos (by omega)]; omega
      have HC : Hid (cmpOf n m < 0) := hc0
      have hlt : n < m := by omega
      have HLE : Hid (n < m) := hlt
      clear hc0 hlt
      go_enter Tryd.func76, Tryd.ntmps76
      go_wp2_with fail
      refine (cmp_any _ H1.out H2.out).mono ?_
      rintro e w1 ⟨rfl, hb1⟩
      have hc : decide (0 ≤ cmpOf n m) = false := by have := HC.out; simp; omega
      generalize cmpOf n m = cm at *
      have H1' : Hid (NatAt w1 (.slice x k c) n) := H1.out.below hb1
      have H2' : Hid (NatAt w1 (.slice y l d) m) := H2.out.below hb1
      go_wp2_with fail
      refine (sub_any _ H2'.out H1'.out HN.out.2 (Nat.le_of_lt HLE.out)).mono ?_
      rintro e w2 ⟨v, rfl, hv, hb2⟩
      have HV : Hid (NatAt w2 v (m - n)) := hv
      clear hv
      go_wp2
      go_ret2
      refine ⟨q, v, m - n, rfl, HV.out, ?_, hb1.trans (hb2.mono hb1.size)⟩
      have := HLE.out
      rw [HPQ.out]
      cases p <;> simp [sgn] <;> omega
theorem sgn_abs (x : Int) : sgn (decide (x < 0)) x.natAbs = x := by
  unfold sgn
  by_cases h : x < 0 <;> simp [h] <;> omega
theorem sgn_neg (x : Int) : sgn (!decide (x < 0)) x.natAbs = -x := by
  unfold sgn
  by_cases h : x < 0 <;> simp [h] <;> omega
end Go.Proofs.YtebahbcmlhdleaaDoor
