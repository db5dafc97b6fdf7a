/-
  What the long way of a division rests on, the second part: the estimate of a word of the quotient, the divisor moved up, the row at the start. Plain numbers and lists of words alone.
-/
import Derived.Test.YtnppmigncjakeaaGreatDoorGi
namespace Go.Proofs.YtnppmigncjakeaaGreatDoor

/-- What a window and a divisor tell by their highest words. -/
structure EstF (U V P top next h u2 : Nat) : Prop where
  vlo : (top * 4294967296 + next) * P ≤ V
  vhi : V < (top * 4294967296 + next + 1) * P
  ulo : (h * 4294967296 + u2) * P ≤ U
  uhi : U < (h * 4294967296 + u2 + 1) * P
  big : 4294967296 * P ≤ V
  lt : U < 4294967296 * V
  nw : next < 4294967296
theorem estF_of {p top next u0 u1 u2 j : Nat} {us vs : List Nat} (hvl : vs.length = p + 2) (ht : vs[p + 1]? = some top) (hn : vs[p]? = some next) (h0 : us[j + p + 2]? = some u0) (h1 : us[j + p + 1]? = some u1) (h2 : us[j + p]? = some u2) (hw : ∀ u ∈ us, u < 4294967296) (hvw : ∀ u ∈ vs, u < 4294967296) (hlt : win us j (p + 3) < 4294967296 * val vs) (htop : 1 ≤ top) :
    EstF (win us j (p + 3)) (val vs) (4294967296 ^ p) top next (u0 * 4294967296 + u1) u2 := by
  have eV := win_two (ws := vs) (j := 0) (p := p) (by simpa using hn) (by simpa using ht)
  rw [win_all hvl] at eV
  have eU := win_three h2 h1 h0
  have nw := hvw next (List.mem_of_getElem? hn)
  have l1 := win_lt hvw 0 p
  have l2 := win_lt hw j p
  refine ⟨by rw [eV]; exact Nat.le_add_left _ _, ?_, by rw [eU]; exact Nat.le_add_left _ _, ?_, ?_, hlt, nw⟩
  · rw [eV, Nat.add_mul _ 1]; omega
  · rw [eU, Nat.add_mul _ 1]; omega
  · rw [eV]
    have : 4294967296 * 4294967296 ^ p ≤ (top * 4294967296 + next) * 4294967296 ^ p := Nat.mul_le_mul_right _ (by omega)
    exact Nat.le_trans this (Nat.le_add_left _ _)
theorem est_dec {U V P top next h u2 g r : Nat} (f : EstF U V P top next h u2) (e : Est (U / V) top h g r) (hc : 4294967295 < g ∨ r * 4294967296 + u2 < g * next) : 1 ≤ g ∧ Est (U / V) top h (g - 1) (r + top) := by
  have hqB := quo_lt f.lt
  have hqm := Nat.div_mul_le_self U V
  generalize U / V = q at *
  have hq : q < g := by
    rcases hc with hc | hc
    · omega
    · refine est_down f.vlo f.uhi hqm ?_
      have h1 : g * (top * 4294967296 + next) = g * top * 4294967296 + g * next := by rw [Nat.mul_add, Nat.mul_assoc]
      have h2 : h * 4294967296 = g * top * 4294967296 + r * 4294967296 := by rw [← e.eq, Nat.add_mul]
      rw [h1, h2, Nat.add_assoc]
      exact Nat.add_lt_add_left hc _
  refine ⟨by omega, by omega, by have := e.le; omega, ?_⟩
  obtain ⟨g', rfl⟩ : ∃ g', g = g' + 1 := ⟨g - 1, by omega⟩
  have := e.eq
  rw [Nat.add_mul, Nat.one_mul] at this
  rw [Nat.add_sub_cancel]
  omega
theorem est_done {U V P top next h u2 g r : Nat} (f : EstF U V P top next h u2) (e : Est (U / V) top h g r) (hg : g ≤ 4294967296) (hc : g * next ≤ r * 4294967296 + u2 ∨ 4294967295 < r) : g ≤ U / V + 1 := by
  have hV : 0 < V := by
    rcases Nat.eq_zero_or_pos V with h0 | h0
    · have := f.lt; rw [h0] at this; omega
    · exact h0
  have hc' : g * next ≤ r * 4294967296 + u2 := by
    rcases hc with hc | hc
    · exact hc
    · have h1 : g * next ≤ 4294967296 * 4294967295 := Nat.mul_le_mul hg (by have := f.nw; omega)
      omega
  refine est_le f.vhi f.ulo ?_ (Nat.le_trans (Nat.mul_le_mul_right P hg) f.big) ?_
  · have h1 : g * (top * 4294967296 + next) = g * top * 4294967296 + g * next := by rw [Nat.mul_add, Nat.mul_assoc]
    have h2 : h * 4294967296 = g * top * 4294967296 + r * 4294967296 := by rw [← e.eq, Nat.add_mul]
    omega
  · have h1 := Nat.div_add_mod U V
    have h2 := Nat.mod_lt U hV
    rw [Nat.add_mul, Nat.one_mul, Nat.mul_comm (U / V) V]
    omega
/-- The divisor's highest word, moved up, is at least 2^31. -/
theorem norm_top {ys vs : List Nat} {l t0 k s : Nat} (hl : ys.length = l + 1) (ht : ys[l]? = some t0) (hk1 : 2 ^ k ≤ 2 * t0) (hk2 : t0 < 2 ^ k) (hs : s + k = 32) (hyw : ∀ u ∈ ys, u < 4294967296) (hvw : ∀ u ∈ vs, u < 4294967296) (hv : val vs = val ys * 2 ^ s) (hle : val vs < 4294967296 ^ (l + 1) → vs.length ≤ l + 1) :
    vs.length = l + 1 ∧ ∃ top, vs[l]? = some top ∧ 2147483648 ≤ top := by
  have hp : 2 ^ k * 2 ^ s = 4294967296 := by rw [← Nat.pow_add, show k + s = 32 by omega]
  have hp0 : 0 < 2 ^ s := Nat.pow_pos (by omega)
  have e1 : val ys = val (ys.take l) + 4294967296 ^ l * t0 := by
    have := val_take_succ ht
    rw [List.take_of_length_le (by omega)] at this
    exact this
  have l1 : val (ys.take l) < 4294967296 ^ l := by
    have h := val_lt (ws := ys.take l) fun u hu => hyw u (List.mem_of_mem_take hu)
    rw [List.length_take, Nat.min_eq_left (by omega)] at h
    exact h
  have hB : 0 < 4294967296 ^ l := Nat.pow_pos (by omega)
  have up : val vs < 4294967296 ^ (l + 1) := by
    have eB : 4294967296 ^ (l + 1) = 4294967296 ^ l * 2 ^ k * 2 ^ s := by rw [Nat.pow_succ, Nat.mul_assoc, hp]
    rw [hv, eB]
    refine Nat.mul_lt_mul_of_pos_right ?_ hp0
    have : 4294967296 ^ l * (t0 + 1) ≤ 4294967296 ^ l * 2 ^ k := Nat.mul_le_mul_left _ hk2
    rw [Nat.mul_add, Nat.mul_one] at this
    omega
  have lo : 4294967296 ^ l * 2147483648 ≤ val vs := by
    have h1 : 4294967296 ≤ 2 * t0 * 2 ^ s := by rw [← hp]; exact Nat.mul_le_mul_right _ hk1
    have h2 : 2147483648 ≤ t0 * 2 ^ s := by rw [Nat.mul_assoc] at h1; omega
    have h3 : 4294967296 ^ l * 2147483648 ≤ 4294967296 ^ l * (t0 * 2 ^ s) := Nat.mul_le_mul_left _ h2
    rw [hv, e1, Nat.add_mul, Nat.mul_assoc]
    omega
  have h1 := hle up
  have hlen : vs.length = l + 1 := by
    rcases Nat.lt_or_ge vs.length (l + 1) with h | h
    · exfalso
      have h2 := val_lt hvw
      have h3 : 4294967296 ^ vs.length ≤ 4294967296 ^ l := Nat.pow_le_pow_right (by omega) (by omega)
      have h4 : 4294967296 ^ l * 1 ≤ 4294967296 ^ l * 2147483648 := Nat.mul_le_mul_left _ (by omega)
      omega
    · omega
  obtain ⟨top, htop⟩ : ∃ top, vs[l]? = some top := ⟨_, List.getElem?_eq_getElem (by omega)⟩
  refine ⟨hlen, top, htop, ?_⟩
  have e2 := val_take_succ htop
  rw [List.take_of_length_le (by omega)] at e2
  have l2 : val (vs.take l) < 4294967296 ^ l := by
    have h := val_lt (ws := vs.take l) fun u hu => hvw u (List.mem_of_mem_take hu)
    rw [List.length_take, Nat.min_eq_left (by omega)] at h
    exact h
  rcases Nat.lt_or_ge top 2147483648 with h | h
  · exfalso
    have h3 : 4294967296 ^ l * (top + 1) ≤ 4294967296 ^ l * 2147483648 := Nat.mul_le_mul_left _ h
    rw [Nat.mul_add, Nat.mul_one] at h3
    omega
  · exact h
/-- The row before the first word of the quotient: the number moved up, and a 0 above it. -/
theorem dv_start {A L M p : Nat} {vs us : List Nat} (hl : us.length = L) (hw : ∀ u ∈ us, u < 4294967296) (hL : M + (p + 2) = L) (hA : A = val us) (h0 : us[L - 1]? = some 0) (hV : 4294967296 ^ (p + 1) ≤ val vs) : Dv A vs us (List.replicate M 0) L M p M := by
  refine ⟨hl, hw, by simp, by simp, fun i h1 h2 => by omega, ?_, ?_⟩
  · have hx : us[M + (p + 1)]? = some 0 := by rw [← h0]; congr 1; omega
    rw [win_succ (i := p + 1) hx]
    have := win_lt hw M (p + 1)
    omega
  · rw [List.drop_of_length_le (by simp)]
    simp [val, hA]
theorem shift_quo {a b s : Nat} : a * 2 ^ s / (b * 2 ^ s) = a / b ∧ a * 2 ^ s % (b * 2 ^ s) / 2 ^ s = a % b := by
  have hp0 : 0 < 2 ^ s := Nat.pow_pos (by omega)
  refine ⟨Nat.mul_div_mul_right _ _ hp0, ?_⟩
  rw [Nat.mul_mod_mul_right, Nat.mul_div_cancel _ hp0]
end Go.Proofs.YtnppmigncjakeaaGreatDoor
