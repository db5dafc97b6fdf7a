/-
  The root of a number, rounded down, and Newton's steps to it; controlled delay as a function of what waits. Conditions: none.
-/
import Derived.Test.YtejomfmbhifeaaaDoorQf
import Derived.Test.YtejomfmbhifeaaaDoorGm
namespace Go.Proofs.YtejomfmbhifeaaaDoor
open Go.RowKit Go.Extern.Stop Go.Stop Go.Extern

def rtN : Nat → Nat
  | 0 => 0
  | n + 1 => if (rtN n + 1) * (rtN n + 1) ≤ n + 1 then rtN n + 1 else rtN n
theorem sq_succ (r : Nat) : (r + 1) * (r + 1) = r * r + 2 * r + 1 := by
  simp only [Nat.add_mul, Nat.mul_add]; omega
theorem rtN_spec (n : Nat) : rtN n * rtN n ≤ n ∧ n < (rtN n + 1) * (rtN n + 1) := by
  induction n with
  | zero => simp [rtN]
  | succ n ih =>
    obtain ⟨h1, h2⟩ := ih
    simp only [rtN]
    split
    · rename_i h
      refine ⟨h, ?_⟩
      have e1 := sq_succ (rtN n + 1)
      have e2 := sq_succ (rtN n)
      omega
    · rename_i h
      exact ⟨by omega, by omega⟩
theorem sq_le {a b : Nat} (h : a ≤ b) : a * a ≤ b * b := Nat.mul_le_mul h h
theorem rt_uniq {n r : Nat} (h1 : r * r ≤ n) (h2 : n < (r + 1) * (r + 1)) : r = rtN n := by
  obtain ⟨k1, k2⟩ := rtN_spec n
  rcases Nat.lt_trichotomy r (rtN n) with h | h | h
  · have := sq_le (show r + 1 ≤ rtN n from h); omega
  · exact h
  · have := sq_le (show rtN n + 1 ≤ r from h); omega
theorem rtN_le (n : Nat) : rtN n ≤ n := by
  obtain ⟨k1, _⟩ := rtN_spec n
  cases h : rtN n with
  | zero => omega
  | succ r => rw [h, sq_succ] at k1; omega
theorem rtN_pos {n : Nat} (h : 1 ≤ n) : 1 ≤ rtN n := by
  obtain ⟨_, k2⟩ := rtN_spec n
  cases h' : rtN n with
  | zero => rw [h'] at k2; omega
  | succ r => omega
theorem newton_ge {n g r : Nat} (hg : 1 ≤ g) (hr : r * r ≤ n) : r ≤ (g + n / g) / 2 := by
  by_cases h : 2 * r ≤ g
  · have : r ≤ (g + n / g) / 2 := by
      have := Nat.zero_le (n / g)
      omega
    exact this
  · have h1 : (2 * r - g) * g ≤ r * r := by
      rcases Nat.le_total g r with hgr | hgr
      · obtain ⟨d, rfl⟩ := Nat.exists_eq_add_of_le hgr
        have : 2 * (g + d) - g = g + 2 * d := by omega
        rw [this]
        simp only [Nat.add_mul, Nat.mul_add]
        have := Nat.mul_comm g d
        have : 2 * d * g = 2 * (d * g) := Nat.mul_assoc _ _ _
        omega
      · obtain ⟨d, rfl⟩ := Nat.exists_eq_add_of_le hgr
        obtain ⟨e, rfl⟩ : ∃ e, r = d + e := ⟨r - d, by omega⟩
        have : 2 * (d + e) - (d + e + d) = e := by omega
        rw [this]
        simp only [Nat.add_mul, Nat.mul_add]
        have := Nat.mul_comm e d
        omega
    have h2 : 2 * r - g ≤ n / g := (Nat.le_div_iff_mul_le (by omega)).2 (Nat.le_trans h1 hr)
    omega
theorem newton_end {n g : Nat} (hg : 1 ≤ g) (h : g ≤ (g + n / g) / 2) (hr : rtN n ≤ g) : g = rtN n := by
  have h1 : g ≤ n / g := by omega
  have h2 : g * g ≤ n := (Nat.le_div_iff_mul_le (by omega)).1 h1
  obtain ⟨_, k2⟩ := rtN_spec n
  rcases Nat.lt_or_ge (rtN n) g with h3 | h3
  · have := sq_le (show rtN n + 1 ≤ g from h3); omega
  · omega
/-- The law of a time. -/
def lawD (S n t : Int) : Int := t + (S * 1000) / (rtN (1000000 * n).toNat : Int)
/-- What a Delay keeps. -/
structure DlS where
  L : List Hd
  late : Bool
  dl : Int
  throws : Bool
  count : Int
  next : Int
/-- One is pulled: what is left, the one, whether there is one, whether it is bad. -/
def pullD (T S : Int) (s : DlS) (now : Int) : DlS × Hd × Bool × Bool :=
  match s.L with
  | [] => ({ s with late := false }, hd0, false, false)
  | x :: L => if now - x.a < T ∨ L = [] then ({ s with L := L, late := false }, x, true, false) else if s.late = false then ({ s with L := L, late := true, dl := now + S }, x, true, false) else ({ s with L := L }, x, true, decide (s.dl ≤ now))
/-- Bad ones are thrown away from x on, as long as it is time. -/
def goD (T S now : Int) : List Hd → DlS → Hd → DlS × List Hd × Hd × Bool
  | [], s, x => if now < s.next then (s, [], x, true) else ({ s with late := false, throws := false, count := s.count + 1 }, [x], hd0, false)
  | y :: L, s, x =>
    if now < s.next then (s, [], x, true)
    else if (pullD T S { s with count := s.count + 1 } now).2.2.2 then
      let r := goD T S now L { (pullD T S { s with count := s.count + 1 } now).1 with throws := true, next := lawD S (s.count + 1) s.next } y
      (r.1, x :: r.2.1, r.2.2.1, r.2.2.2)
    else ({ (pullD T S { s with count := s.count + 1 } now).1 with throws := false }, [x], y, true)
/-- It begins to throw away. -/
def beginD (S : Int) (s : DlS) (now : Int) : DlS :=
  let c := if 2 < s.count ∧ now - s.next < 16 * S then s.count - 2 else 1
  { s with throws := true, count := c, next := lawD S c now }
/-- One is taken. -/
def takeD (T S : Int) (s : DlS) (now : Int) : DlS × List Hd × Hd × Bool :=
  let p := pullD T S s now
  if p.2.2.2 = false then ({ p.1 with throws := false }, [], p.2.1, p.2.2.1)
  else if p.1.throws then goD T S now p.1.L p.1 p.2.1
  else
    let r := pullD T S p.1 now
    (beginD S r.1 now, [p.2.1], r.2.1, r.2.2.1)
end Go.Proofs.YtejomfmbhifeaaaDoor
