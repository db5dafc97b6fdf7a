/-
  What the long way of a division rests on: plain numbers and lists of words alone.
-/
import Derived.Test.YtnppmigncjakeaaGreatDoorBig10
namespace Go.Proofs.YtnppmigncjakeaaGreatDoor

/-- Of a window below B times the divisor the quotient is below B. -/
theorem quo_lt {B U V : Nat} (h : U < B * V) : U / V < B := by
  have hV : 0 < V := by
    rcases Nat.eq_zero_or_pos V with h0 | h0
    · subst h0; simp at h
    · exact h0
  rw [Nat.div_lt_iff_lt_mul hV]; exact h
/-- The estimate by the two highest words is not too small. -/
theorem est_ge {P U V h top q : Nat} (hV : top * P ≤ V) (hU : U < (h + 1) * P) (hq : q * V ≤ U) : q * top ≤ h := by
  have h1 : q * (top * P) ≤ q * V := Nat.mul_le_mul_left _ hV
  rw [← Nat.mul_assoc] at h1
  have h2 : q * top * P < (h + 1) * P := by omega
  have := Nat.lt_of_mul_lt_mul_right h2
  omega
/-- An estimate that the three highest words refute is too great. -/
theorem est_down {P U V H W g q : Nat} (hV : W * P ≤ V) (hU : U < (H + 1) * P) (hq : q * V ≤ U) (hg : H < g * W) : q < g := by
  rcases Nat.lt_or_ge q g with h | h
  · exact h
  · exfalso
    have h1 : q * (W * P) ≤ q * V := Nat.mul_le_mul_left _ hV
    rw [← Nat.mul_assoc] at h1
    have h2 : q * W * P < (H + 1) * P := by omega
    have h3 := Nat.lt_of_mul_lt_mul_right h2
    have h4 : g * W ≤ q * W := Nat.mul_le_mul_right _ h
    omega
/-- An estimate that they do not refute is at most one too great. -/
theorem est_le {P U V H W g q : Nat} (hV : V < (W + 1) * P) (hU : H * P ≤ U) (hg : g * W ≤ H) (hs : g * P ≤ V) (hq : U < (q + 1) * V) : g ≤ q + 1 := by
  rcases Nat.lt_or_ge (q + 1) g with h | h
  · exfalso
    have h1 : g * V ≤ g * ((W + 1) * P) := Nat.mul_le_mul_left _ (by omega)
    have h2 : g * ((W + 1) * P) = g * W * P + g * P := by rw [← Nat.mul_assoc, Nat.mul_add, Nat.mul_one, Nat.add_mul]
    have h3 : g * W * P ≤ H * P := Nat.mul_le_mul_right _ hg
    have h4 : (q + 2) * V ≤ g * V := Nat.mul_le_mul_right _ h
    have h5 : (q + 2) * V = (q + 1) * V + V := by rw [← Nat.succ_mul]
    omega
  · exact h
/-- One word of the product taken away. -/
theorem ms_step {p R G O c d u v g n c' d' l : Nat} (h : R + G = O + p * (c + d)) (hc : c + g * v = l + 4294967296 * c') (ht : n + l + d = u + 4294967296 * d') :
    R + p * n + (G + g * (p * v)) = O + p * u + p * 4294967296 * (c' + d') := by
  have e1 : p * (c + g * v) = p * l + p * 4294967296 * c' := by rw [hc, Nat.mul_add, Nat.mul_assoc]
  have e2 : p * (n + l + d) = p * u + p * 4294967296 * d' := by rw [ht, Nat.mul_add, Nat.mul_assoc]
  have e3 : g * (p * v) = p * (g * v) := Nat.mul_left_comm _ _ _
  simp only [Nat.mul_add] at *
  omega
/-- One word of the divisor put back. -/
theorem ab_step {p R O V c u v n c' : Nat} (h : R + p * c = O + V) (hc : c + (u + v) = n + 4294967296 * c') : R + p * n + p * 4294967296 * c' = O + p * u + (V + p * v) := by
  have e1 : p * (c + (u + v)) = p * n + p * 4294967296 * c' := by rw [hc, Nat.mul_add, Nat.mul_assoc]
  simp only [Nat.mul_add] at *
  omega
/-- The last borrow tells whether the estimate was right. -/
theorem ms_end {N g U V q X b : Nat} (h : X + g * V = U + N * b) (hX : X < N) (hqU : q * V ≤ U) (hUq : U < (q + 1) * V) (h1 : q ≤ g) (h2 : g ≤ q + 1) (hb : b ≤ 1) :
    (b = 0 → g = q ∧ X + q * V = U) ∧ (b = 1 → g = q + 1 ∧ X + V = U - q * V + N) := by
  have hs : (q + 1) * V = q * V + V := Nat.succ_mul _ _
  constructor
  · intro h0
    subst h0
    rcases Nat.lt_or_ge q g with hg | hg
    · have : g = q + 1 := by omega
      subst this
      omega
    · have : g = q := by omega
      subst this
      exact ⟨rfl, by omega⟩
  · intro h0
    subst h0
    rcases Nat.lt_or_ge q g with hg | hg
    · have : g = q + 1 := by omega
      subst this
      exact ⟨rfl, by omega⟩
    · have : g = q := by omega
      subst this
      omega
/-- The number that the words j .. j + i - 1 tell. -/
def win (ws : List Nat) (j i : Nat) : Nat := val ((ws.drop j).take i)
theorem win_zero (ws : List Nat) (j : Nat) : win ws j 0 = 0 := by simp [win, val]
theorem win_succ {ws : List Nat} {j i u : Nat} (h : ws[j + i]? = some u) : win ws j (i + 1) = win ws j i + 4294967296 ^ i * u := by
  unfold win
  exact val_take_succ (by rw [List.getElem?_drop]; exact h)
theorem win_set (ws : List Nat) (j i x : Nat) : win (ws.set (j + i) x) j i = win ws j i := by
  unfold win
  congr 1
  apply List.ext_getElem?
  intro k
  rw [List.getElem?_take, List.getElem?_take]
  split
  · rw [List.getElem?_drop, List.getElem?_drop, List.getElem?_set_ne (by omega)]
  · rfl
theorem win_congr {ws us : List Nat} {j i : Nat} (h : ∀ k, k < i → ws[j + k]? = us[j + k]?) : win ws j i = win us j i := by
  unfold win
  congr 1
  apply List.ext_getElem?
  intro k
  rw [List.getElem?_take, List.getElem?_take]
  split
  · rename_i hk
    rw [List.getElem?_drop, List.getElem?_drop, h k hk]
  · rfl
theorem win_lt {ws : List Nat} (h : ∀ u ∈ ws, u < 4294967296) (j i : Nat) : win ws j i < 4294967296 ^ i := by
  unfold win
  have h1 := val_lt (ws := (ws.drop j).take i) fun u hu => h u (List.mem_of_mem_drop (List.mem_of_mem_take hu))
  have h2 : ((ws.drop j).take i).length ≤ i := by rw [List.length_take]; omega
  exact Nat.lt_of_lt_of_le h1 (Nat.pow_le_pow_right (by omega) h2)
/-- What stands of a row of words while the product is taken away. -/
structure MsAt (us vs ws : List Nat) (L j i g c d : Nat) : Prop where
  len : ws.length = L
  word : ∀ u ∈ ws, u < 4294967296
  low : ∀ k, k < j → ws[k]? = us[k]?
  high : ∀ k, j + i ≤ k → ws[k]? = us[k]?
  sum : win ws j i + g * val (vs.take i) = win us j i + 4294967296 ^ i * (c + d)
  carry : c < 4294967296
  borrow : d ≤ 1
theorem mem_set_word {ws : List Nat} {k x : Nat} (h : ∀ u ∈ ws, u < 4294967296) (hx : x < 4294967296) : ∀ u ∈ ws.set k x, u < 4294967296 := by
  intro u hu
  rcases List.mem_or_eq_of_mem_set hu with h' | h'
  · exact h u h'
  · omega
theorem ms_bound {g v c : Nat} (hg : g ≤ 4294967296) (hv : v < 4294967296) (hc : c < 4294967296) : g * v ≤ 18446744069414584320 ∧ c + g * v < 18446744073709551616 := by
  have : g * v ≤ 4294967296 * 4294967295 := Nat.mul_le_mul hg (by omega)
  omega
theorem ms_next {us vs ws : List Nat} {L j i g c d u v : Nat} (h : MsAt us vs ws L j i g c d) (hg : g ≤ 4294967296) (hL : j + i < L) (hu : us[j + i]? = some u) (hv : vs[i]? = some v) (u1 : u < 4294967296) (v1 : v < 4294967296) :
    MsAt us vs (ws.set (j + i) (rst u ((c + g * v) % 4294967296) d)) L j (i + 1) g ((c + g * v) / 4294967296) (brw u ((c + g * v) % 4294967296) d) := by
  obtain ⟨b1, b2⟩ := ms_bound hg v1 h.carry
  have hd := h.borrow
  have hc : c + g * v = (c + g * v) % 4294967296 + 4294967296 * ((c + g * v) / 4294967296) := by omega
  have hl : (c + g * v) % 4294967296 < 4294967296 := by omega
  have hc' : (c + g * v) / 4294967296 < 4294967296 := by omega
  generalize (c + g * v) % 4294967296 = l at *
  generalize (c + g * v) / 4294967296 = c' at *
  have ht : rst u l d + l + d = u + 4294967296 * brw u l d ∧ rst u l d < 4294967296 ∧ brw u l d ≤ 1 := by
    unfold rst brw; split <;> omega
  obtain ⟨t1, t2, t3⟩ := ht
  generalize rst u l d = x at *
  generalize brw u l d = d' at *
  refine ⟨by simpa using h.len, mem_set_word h.word t2, ?_, ?_, ?_, hc', t3⟩
  · intro k hk; rw [List.getElem?_set_ne (by omega)]; exact h.low k hk
  · intro k hk; rw [List.getElem?_set_ne (by omega)]; exact h.high k (by omega)
  · have hx : (ws.set (j + i) x)[j + i]? = some x := List.getElem?_set_self (by have := h.len; omega)
    rw [win_succ hx, win_set, win_succ hu, val_take_succ hv, Nat.mul_add g, Nat.pow_succ]
    exact ms_step h.sum hc t1
theorem ms_last {us vs ws : List Nat} {L j n g c d u : Nat} (h : MsAt us vs ws L j n g c d) (hL : j + n < L) (hn : vs.length = n) (hu : us[j + n]? = some u) (u1 : u < 4294967296) :
    let ws' := ws.set (j + n) (rst u c d)
    ws'.length = L ∧ (∀ x ∈ ws', x < 4294967296) ∧ (∀ k, k < j → ws'[k]? = us[k]?) ∧ (∀ k, j + n + 1 ≤ k → ws'[k]? = us[k]?) ∧ win ws' j (n + 1) + g * val vs = win us j (n + 1) + 4294967296 ^ (n + 1) * brw u c d := by
  intro ws'
  have ht : rst u c d + c + d = u + 4294967296 * brw u c d ∧ rst u c d < 4294967296 ∧ brw u c d ≤ 1 := by
    have := h.carry; have := h.borrow
    unfold rst brw; split <;> omega
  obtain ⟨t1, t2, t3⟩ := ht
  have hx : ws'[j + n]? = some (rst u c d) := List.getElem?_set_self (by have := h.len; omega)
  refine ⟨by simp [ws', h.len], mem_set_word h.word t2, ?_, ?_, ?_⟩
  · intro k hk; show (ws.set _ _)[k]? = _; rw [List.getElem?_set_ne (by omega)]; exact h.low k hk
  · intro k hk; show (ws.set _ _)[k]? = _; rw [List.getElem?_set_ne (by omega)]; exact h.high k (by omega)
  · have hs := h.sum
    rw [List.take_of_length_le (by omega)] at hs
    rw [win_succ hx, win_set, win_succ hu]
    have := ms_step (p := 4294967296 ^ n) (c := c) (d := d) (u := u) (v := 0) (g := 0) (n := rst u c d) (c' := 0) (d' := brw u c d) (l := c) hs (by omega) t1
    rw [Nat.pow_succ]
    simp only [Nat.zero_mul, Nat.zero_add, Nat.add_zero] at this
    omega
/-- What stands of a row of words while the divisor is put back. -/
structure AbAt (us vs ws : List Nat) (L j i c : Nat) : Prop where
  len : ws.length = L
  word : ∀ u ∈ ws, u < 4294967296
  low : ∀ k, k < j → ws[k]? = us[k]?
  high : ∀ k, j + i ≤ k → ws[k]? = us[k]?
  sum : win ws j i + 4294967296 ^ i * c = win us j i + val (vs.take i)
  carry : c ≤ 1
theorem ab_next {us vs ws : List Nat} {L j i c u v : Nat} (h : AbAt us vs ws L j i c) (hL : j + i < L) (hu : us[j + i]? = some u) (hv : vs[i]? = some v) (u1 : u < 4294967296) (v1 : v < 4294967296) :
    AbAt us vs (ws.set (j + i) ((c + (u + v)) % 4294967296)) L j (i + 1) ((c + (u + v)) / 4294967296) := by
  have hcc := h.carry
  have hc : c + (u + v) = (c + (u + v)) % 4294967296 + 4294967296 * ((c + (u + v)) / 4294967296) := by omega
  have hl : (c + (u + v)) % 4294967296 < 4294967296 := by omega
  have hc' : (c + (u + v)) / 4294967296 ≤ 1 := by omega
  generalize (c + (u + v)) % 4294967296 = l at *
  generalize (c + (u + v)) / 4294967296 = c' at *
  refine ⟨by simpa using h.len, mem_set_word h.word hl, ?_, ?_, ?_, hc'⟩
  · intro k hk; rw [List.getElem?_set_ne (by omega)]; exact h.low k hk
  · intro k hk; rw [List.getElem?_set_ne (by omega)]; exact h.high k (by omega)
  · have hx : (ws.set (j + i) l)[j + i]? = some l := List.getElem?_set_self (by have := h.len; omega)
    rw [win_succ hx, win_set, win_succ hu, val_take_succ hv, Nat.pow_succ]
    exact ab_step h.sum hc
theorem ab_last {us vs ws : List Nat} {L j n c u : Nat} (h : AbAt us vs ws L j n c) (hL : j + n < L) (hn : vs.length = n) (hu : us[j + n]? = some u) (u1 : u < 4294967296) :
    let ws' := ws.set (j + n) ((u + c) % 4294967296)
    ws'.length = L ∧ (∀ x ∈ ws', x < 4294967296) ∧ (∀ k, k < j → ws'[k]? = us[k]?) ∧ (∀ k, j + n + 1 ≤ k → ws'[k]? = us[k]?) ∧ ∃ b, b ≤ 1 ∧ win ws' j (n + 1) + 4294967296 ^ (n + 1) * b = win us j (n + 1) + val vs := by
  intro ws'
  have hcc := h.carry
  have hx : ws'[j + n]? = some ((u + c) % 4294967296) := List.getElem?_set_self (by have := h.len; omega)
  have hw : (u + c) % 4294967296 < 4294967296 := by omega
  refine ⟨by simp [ws', h.len], mem_set_word h.word hw, ?_, ?_, (u + c) / 4294967296, by omega, ?_⟩
  · intro k hk; show (ws.set _ _)[k]? = _; rw [List.getElem?_set_ne (by omega)]; exact h.low k hk
  · intro k hk; show (ws.set _ _)[k]? = _; rw [List.getElem?_set_ne (by omega)]; exact h.high k (by omega)
  · have hs := h.sum
    rw [List.take_of_length_le (by omega)] at hs
    rw [win_succ hx, win_set, win_succ hu]
    have hc : c + (u + 0) = (u + c) % 4294967296 + 4294967296 * ((u + c) / 4294967296) := by omega
    have := ab_step (p := 4294967296 ^ n) (u := u) (v := 0) hs hc
    rw [Nat.pow_succ]
    simp only [Nat.mul_zero, Nat.add_zero] at this
    omega
theorem win_all {ws : List Nat} {n : Nat} (h : ws.length = n) : win ws 0 n = val ws := by
  unfold win; rw [List.drop_zero, List.take_of_length_le (by omega)]
theorem win_cons {ws : List Nat} {j u : Nat} (i : Nat) (h : ws[j]? = some u) : win ws j (i + 1) = u + 4294967296 * win ws (j + 1) i := by
  obtain ⟨a, b⟩ := List.getElem?_eq_some_iff.1 h
  unfold win
  rw [List.drop_eq_getElem_cons a, b, List.take_succ_cons]; rfl
theorem val_zero_of {ws : List Nat} (h : ∀ (i u : Nat), ws[i]? = some u → u = 0) : val ws = 0 := by
  induction ws with
  | nil => rfl
  | cons u r ih =>
    have h0 := h 0 u rfl
    have h1 := ih fun i v hv => h (i + 1) v (by simpa using hv)
    show u + 4294967296 * val r = 0
    rw [h0, h1]
/-- A number whose words above a window are 0. -/
theorem val_win {us : List Nat} {L j i : Nat} (hl : us.length = L) (hj : j + i ≤ L) (hz : ∀ k, j + i ≤ k → k < L → us[k]? = some 0) : val us = val (us.take j) + 4294967296 ^ j * win us j i := by
  have h1 : val us = val (us.take j) + 4294967296 ^ j * val (us.drop j) := by
    have := val_append (us.take j) (us.drop j)
    rw [List.take_append_drop, List.length_take, Nat.min_eq_left (by omega)] at this
    exact this
  have h2 : val (us.drop j) = win us j i := by
    have h3 := val_append ((us.drop j).take i) ((us.drop j).drop i)
    rw [List.take_append_drop] at h3
    have h4 : val ((us.drop j).drop i) = 0 := by
      apply val_zero_of
      intro k u hk
      rw [List.drop_drop, List.getElem?_drop] at hk
      have hlt := (List.getElem?_eq_some_iff.1 hk).1
      rw [hz (j + i + k) (by omega) (by omega)] at hk
      exact (Option.some.inj hk).symm
    rw [h4] at h3
    rw [h3]; unfold win; omega
  rw [h1, h2]
/-- A window's three highest words. -/
theorem win_three {ws : List Nat} {j p u2 u1 u0 : Nat} (h2 : ws[j + p]? = some u2) (h1 : ws[j + p + 1]? = some u1) (h0 : ws[j + p + 2]? = some u0) :
    win ws j (p + 3) = win ws j p + ((u0 * 4294967296 + u1) * 4294967296 + u2) * 4294967296 ^ p := by
  rw [win_succ (i := p + 2) h0, win_succ (i := p + 1) h1, win_succ h2, Nat.pow_succ 4294967296 (p + 1), Nat.pow_succ 4294967296 p]
  generalize 4294967296 ^ p = P
  have e1 : P * 4294967296 * 4294967296 * u0 = (u0 * 4294967296 * 4294967296) * P := by
    rw [Nat.mul_comm P 4294967296, Nat.mul_assoc 4294967296 P, Nat.mul_comm P 4294967296, ← Nat.mul_assoc 4294967296 4294967296 P, Nat.mul_comm (4294967296 * 4294967296 * P) u0, ← Nat.mul_assoc, ← Nat.mul_assoc]
  have e2 : P * 4294967296 * u1 = (u1 * 4294967296) * P := by rw [Nat.mul_comm, ← Nat.mul_assoc, Nat.mul_right_comm]
  rw [e1, e2, Nat.add_mul, Nat.add_mul, Nat.add_mul, Nat.mul_comm P u2]
  omega
theorem win_two {ws : List Nat} {j p u1 u0 : Nat} (h1 : ws[j + p]? = some u1) (h0 : ws[j + p + 1]? = some u0) :
    win ws j (p + 2) = win ws j p + (u0 * 4294967296 + u1) * 4294967296 ^ p := by
  rw [win_succ (i := p + 1) h0, win_succ h1, Nat.pow_succ]
  generalize 4294967296 ^ p = P
  have e2 : P * 4294967296 * u0 = (u0 * 4294967296) * P := by rw [Nat.mul_comm, ← Nat.mul_assoc, Nat.mul_right_comm]
  rw [e2, Nat.add_mul, Nat.mul_comm P u1]
  omega
/-- What stands between two words of the quotient. -/
structure Dv (A : Nat) (vs us qs : List Nat) (L M p k : Nat) : Prop where
  len : us.length = L
  word : ∀ u ∈ us, u < 4294967296
  qlen : qs.length = M
  qword : ∀ u ∈ qs, u < 4294967296
  zero : ∀ i, k + (p + 2) ≤ i → i < L → us[i]? = some 0
  small : win us k (p + 2) < val vs
  all : A = val (qs.drop k) * (4294967296 ^ k * val vs) + val us
theorem dv_below {A L M p j : Nat} {vs us qs : List Nat} (h : Dv A vs us qs L M p (j + 1)) (hj : j + (p + 2) < L) : win us j (p + 3) < 4294967296 * val vs := by
  obtain ⟨u, hu⟩ : ∃ u, us[j]? = some u := ⟨_, List.getElem?_eq_getElem (by have := h.len; omega)⟩
  have u1 := h.word u (List.mem_of_getElem? hu)
  rw [win_cons (p + 2) hu]
  have := h.small
  omega
theorem val_drop' {ws : List Nat} {i u : Nat} (h : ws[i]? = some u) : val (ws.drop i) = u + 4294967296 * val (ws.drop (i + 1)) := by
  obtain ⟨a, b⟩ := List.getElem?_eq_some_iff.1 h
  rw [List.drop_eq_getElem_cons a, b]; rfl
theorem dv_step {A L M p j q : Nat} {vs us qs ws : List Nat} (h : Dv A vs us qs L M p (j + 1)) (hj : j + (p + 2) < L) (hM : j < M) (hvl : vs.length = p + 2) (hvw : ∀ u ∈ vs, u < 4294967296)
    (hl : ws.length = L) (hw : ∀ u ∈ ws, u < 4294967296) (hlow : ∀ k, k < j → ws[k]? = us[k]?) (hhigh : ∀ k, j + (p + 2) + 1 ≤ k → ws[k]? = us[k]?) (hq : q = win us j (p + 3) / val vs) (hwin : win ws j (p + 3) + q * val vs = win us j (p + 3)) :
    Dv A vs ws (qs.set j q) L M p j := by
  have hV0 : 0 < val vs := by have := h.small; omega
  have hqB : q < 4294967296 := by rw [hq]; exact quo_lt (dv_below h hj)
  have hlt : win ws j (p + 3) < val vs := by
    have h1 := Nat.div_add_mod (win us j (p + 3)) (val vs)
    have h2 := Nat.mod_lt (win us j (p + 3)) hV0
    rw [← hq, Nat.mul_comm] at h1
    omega
  have hVB : val vs < 4294967296 ^ (p + 2) := by have := val_lt hvw; rw [hvl] at this; exact this
  obtain ⟨x, hx⟩ : ∃ x, ws[j + (p + 2)]? = some x := ⟨_, List.getElem?_eq_getElem (by omega)⟩
  have hs : win ws j (p + 3) = win ws j (p + 2) + 4294967296 ^ (p + 2) * x := win_succ hx
  have hx0 : x = 0 := by
    rcases Nat.eq_zero_or_pos x with h0 | h0
    · exact h0
    · exfalso
      have : 4294967296 ^ (p + 2) * 1 ≤ 4294967296 ^ (p + 2) * x := Nat.mul_le_mul_left _ h0
      omega
  subst hx0
  have hz' : ∀ k, j + (p + 3) ≤ k → k < L → us[k]? = some 0 := fun k h1 h2 => h.zero k (by omega) h2
  have hzw : ∀ k, j + (p + 3) ≤ k → k < L → ws[k]? = some 0 := fun k h1 h2 => by rw [hhigh k (by omega)]; exact hz' k h1 h2
  refine ⟨hl, hw, by simpa using h.qlen, mem_set_word h.qword hqB, ?_, by omega, ?_⟩
  · intro i h1 h2
    by_cases hi : i = j + (p + 2)
    · rw [hi]; exact hx
    · exact hzw i (by omega) h2
  · have hqs : (qs.set j q)[j]? = some q := List.getElem?_set_self (by have := h.qlen; omega)
    rw [val_drop' hqs, List.drop_set_of_lt (by omega)]
    have ha := h.all
    have e1 := val_win h.len (show j + (p + 3) ≤ L by omega) hz'
    have e2 := val_win hl (show j + (p + 3) ≤ L by omega) hzw
    have e3 : ws.take j = us.take j := by
      apply List.ext_getElem?
      intro k
      rw [List.getElem?_take, List.getElem?_take]
      split
      · rename_i hk; exact hlow k hk
      · rfl
    rw [e3] at e2
    rw [e1, ← hwin, Nat.pow_succ] at ha
    rw [e2, ha, Nat.mul_add, Nat.add_mul]
    generalize val (qs.drop (j + 1)) = Q
    generalize 4294967296 ^ j = P
    generalize val vs = V
    have f1 : Q * (P * 4294967296 * V) = 4294967296 * Q * (P * V) := by rw [Nat.mul_right_comm P 4294967296 V, Nat.mul_comm (P * V) 4294967296, ← Nat.mul_assoc, Nat.mul_comm Q 4294967296]
    have f2 : P * (q * V) = q * (P * V) := Nat.mul_left_comm _ _ _
    rw [f1, f2]
    omega
theorem dv_end {A L M p : Nat} {vs us qs : List Nat} (h : Dv A vs us qs L M p 0) (hL : p + 2 ≤ L) : val qs = A / val vs ∧ val us = A % val vs := by
  have hV0 : 0 < val vs := by have := h.small; omega
  have e1 := val_win h.len (show 0 + (p + 2) ≤ L by omega) h.zero
  have e2 : val us = win us 0 (p + 2) := by rw [e1]; simp [val]
  have hlt : val us < val vs := by rw [e2]; exact h.small
  have ha := h.all
  simp only [List.drop_zero, Nat.pow_zero, Nat.one_mul] at ha
  rw [ha, Nat.mul_comm]
  exact ⟨by rw [Nat.mul_add_div hV0, Nat.div_eq_of_lt hlt]; rfl, by rw [Nat.mul_add_mod, Nat.mod_eq_of_lt hlt]⟩
/-- The estimate of a word of the quotient, as it goes down. -/
structure Est (q top h g r : Nat) : Prop where
  ge : q ≤ g
  le : g ≤ 4294967297
  eq : g * top + r = h
theorem est_two {h u2 Y P : Nat} (u2w : u2 < 4294967296) (l2 : Y < P) : Y + (h * 4294967296 + u2) * P < (h + 1) * (4294967296 * P) := by
  have h1 : (h * 4294967296 + u2 + 1) * P ≤ (h + 1) * 4294967296 * P := Nat.mul_le_mul_right _ (by omega)
  rw [← Nat.mul_assoc]
  rw [Nat.add_mul (h * 4294967296 + u2) 1 P] at h1
  omega
theorem est_first {p top next u0 u1 j : Nat} {us vs : List Nat} {V U : Nat} (hV : val vs = V) (hU : win us j (p + 3) = U) (hvl : vs.length = p + 2) (ht : vs[p + 1]? = some top) (hn : vs[p]? = some next) (h0 : us[j + p + 2]? = some u0) (h1 : us[j + p + 1]? = some u1) (u1w : u1 < 4294967296) (u2 : Nat) (h2 : us[j + p]? = some u2) (hw : ∀ u ∈ us, u < 4294967296) (hvw : ∀ u ∈ vs, u < 4294967296) (hlt : U < 4294967296 * V) (htop : 2147483648 ≤ top) :
    Est (U / V) top (u0 * 4294967296 + u1) ((u0 * 4294967296 + u1) / top) ((u0 * 4294967296 + u1) % top) := by
  have eV := win_two (ws := vs) (j := 0) (p := p) (by simpa using hn) (by simpa using ht)
  rw [win_all hvl, hV] at eV
  have eU := win_three h2 h1 h0
  rw [hU] at eU
  have nw := hvw next (List.mem_of_getElem? hn)
  have u2w := hw u2 (List.mem_of_getElem? h2)
  have l1 := win_lt hvw 0 p
  have l2 := win_lt hw j p
  generalize win vs 0 p = X at *
  generalize win us j p = Y at *
  have hP : 0 < 4294967296 ^ p := Nat.pow_pos (by omega)
  generalize 4294967296 ^ p = P at *
  have hV0 : 0 < V := by
    rcases Nat.eq_zero_or_pos V with h | h
    · subst h; omega
    · exact h
  have a1 : top * (4294967296 * P) ≤ V := by
    rw [eV, Nat.add_mul, ← Nat.mul_assoc]; omega
  have a2 : U < ((u0 * 4294967296 + u1) + 1) * (4294967296 * P) := by
    rw [eU]
    exact est_two u2w l2
  have hq1 : U / V * V ≤ U := Nat.div_mul_le_self _ _
  have hge : U / V ≤ (u0 * 4294967296 + u1) / top := by
    rw [Nat.le_div_iff_mul_le (by omega)]
    exact est_ge a1 a2 hq1
  refine ⟨hge, ?_, ?_⟩
  · have hu0 : u0 ≤ top := by
      rcases Nat.lt_or_ge top u0 with h | h
      · exfalso
        have b1 : V < (top + 1) * (4294967296 * P) := by
          rw [eV]
          exact est_two nw l1
        have b2 : (top + 1) * (4294967296 * P) ≤ u0 * (4294967296 * P) := Nat.mul_le_mul_right _ h
        have b3 : u0 * 4294967296 * 4294967296 * P ≤ U := by
          have : u0 * 4294967296 * 4294967296 * P ≤ ((u0 * 4294967296 + u1) * 4294967296 + u2) * P := Nat.mul_le_mul_right _ (by omega)
          omega
        have b4 : u0 * 4294967296 * 4294967296 * P = 4294967296 * (u0 * (4294967296 * P)) := by
          rw [Nat.mul_comm u0 4294967296, Nat.mul_assoc 4294967296 u0 4294967296, Nat.mul_assoc, Nat.mul_assoc]
        omega
      · exact h
    apply Nat.le_of_lt_succ
    rw [Nat.div_lt_iff_lt_mul (by omega)]
    omega
  · rw [Nat.mul_comm]; exact Nat.div_add_mod _ _
end Go.Proofs.YtnppmigncjakeaaGreatDoor
