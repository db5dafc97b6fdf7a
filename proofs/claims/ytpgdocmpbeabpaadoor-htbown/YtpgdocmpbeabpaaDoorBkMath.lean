/-
  Tokens in plain numbers: what is in a bucket packet by packet, when cells should come, which packets are kept, the colors, and when packets go; the two ways to say who conforms agree; what conforms is bounded; what is shaped conforms, and one tick sooner would not. Conditions: packets that may be, in order; a bucket that may be.
-/
import Derived.Test.YtpgdocmpbeabpaaDoorU3
namespace Go.Proofs.YtpgdocmpbeabpaaDoor

/-- What is in a bucket (times t) when it is told the time now: bytes n in t ticks, room R. -/
def pas (n t R lev lat now : Int) : Int := if now ≤ lat then lev else if lev + (now - lat) * n ≤ R * t then lev + (now - lat) * n else R * t
/-- What is in it, and its latest time, ahead of packet k. -/
def bst (n t R : Int) (xs : List It) : Nat → Int × Int
  | 0 => (R * t, 0)
  | k + 1 => match xs[k]? with
    | none => bst n t R xs k
    | some x => (if x.l * t ≤ pas n t R (bst n t R xs k).1 (bst n t R xs k).2 x.a then pas n t R (bst n t R xs k).1 (bst n t R xs k).2 x.a - x.l * t else pas n t R (bst n t R xs k).1 (bst n t R xs k).2 x.a, if x.a ≤ (bst n t R xs k).2 then (bst n t R xs k).2 else x.a)
/-- Whether packet k conforms. -/
def bok (n t R : Int) (xs : List It) (k : Nat) : Bool := match xs[k]? with
  | none => false
  | some x => decide (x.l * t ≤ pas n t R (bst n t R xs k).1 (bst n t R xs k).2 x.a)
/-- When all that conformed would have been sent (times n), ahead of packet k. -/
def due (n t R : Int) (xs : List It) : Nat → Int
  | 0 => 0
  | k + 1 => match xs[k]? with
    | none => due n t R xs k
    | some x => if x.a * n + R * t < (if due n t R xs k ≤ x.a * n then x.a * n else due n t R xs k) + x.l * t then due n t R xs k else (if due n t R xs k ≤ x.a * n then x.a * n else due n t R xs k) + x.l * t
def cok (n t R : Int) (xs : List It) (k : Nat) : Bool := match xs[k]? with
  | none => false
  | some x => !decide (x.a * n + R * t < (if due n t R xs k ≤ x.a * n then x.a * n else due n t R xs k) + x.l * t)

/-- Packets that may be, in order. -/
def Fine (xs : List It) : Prop := ∀ (k : Nat) (x : It), xs[k]? = some x → (0 ≤ x.a ∧ x.a ≤ 1000000000 ∧ 1 ≤ x.l ∧ x.l ≤ 10000) ∧ ∀ y, xs[k + 1]? = some y → x.a ≤ y.a
theorem prod_bounds {n R a b : Int} (hn : 0 ≤ n) (hn1 : n ≤ a) (hR : 0 ≤ R) (hR1 : R ≤ b) : 0 ≤ R * n ∧ R * n ≤ b * a := by
  refine ⟨Int.mul_nonneg hR hn, Int.mul_le_mul hR1 hn1 hn (by omega)⟩

theorem bst_succ {n t R : Int} {xs : List It} {k : Nat} {x : It} (hx : xs[k]? = some x) : bst n t R xs (k + 1) = (if x.l * t ≤ pas n t R (bst n t R xs k).1 (bst n t R xs k).2 x.a then pas n t R (bst n t R xs k).1 (bst n t R xs k).2 x.a - x.l * t else pas n t R (bst n t R xs k).1 (bst n t R xs k).2 x.a, if x.a ≤ (bst n t R xs k).2 then (bst n t R xs k).2 else x.a) := by
  simp only [bst, hx]
theorem due_succ {n t R : Int} {xs : List It} {k : Nat} {x : It} (hx : xs[k]? = some x) : due n t R xs (k + 1) = if x.a * n + R * t < (if due n t R xs k ≤ x.a * n then x.a * n else due n t R xs k) + x.l * t then due n t R xs k else (if due n t R xs k ≤ x.a * n then x.a * n else due n t R xs k) + x.l * t := by
  simp only [due, hx]

/-- The latest time ahead of packet k: 0, or the one's ahead. -/
theorem bst_lat {n t R : Int} {xs : List It} (hF : Fine xs) : ∀ k, k ≤ xs.length → (0 ≤ (bst n t R xs k).2 ∧ (bst n t R xs k).2 ≤ 1000000000) ∧ ∀ x, xs[k]? = some x → (bst n t R xs k).2 ≤ x.a := by
  intro k
  induction k with
  | zero => intro _; refine ⟨by simp [bst], fun x hx => ?_⟩; have := (hF 0 x hx).1; simp [bst]; omega
  | succ k ih =>
    intro hk
    obtain ⟨x, hx⟩ : ∃ x, xs[k]? = some x := ⟨_, List.getElem?_eq_getElem (by omega)⟩
    obtain ⟨hi, hle⟩ := ih (by omega)
    have h1 := hle x hx
    have h2 := hF k x hx
    rw [bst_succ hx]
    refine ⟨?_, fun y hy => ?_⟩
    · simp only; split <;> omega
    · have := h2.2 y hy
      simp only; split <;> omega

theorem pas_eq {n t R lev lat now : Int} (h : lat ≤ now) (hl : lev ≤ R * t) : pas n t R lev lat now = min (lev + (now * n - lat * n)) (R * t) := by
  unfold pas
  split
  · obtain rfl : now = lat := by omega
    omega
  · rw [Int.sub_mul]; split <;> omega
theorem bst_lev {n t R : Int} {xs : List It} (hF : Fine xs) (hn : 1 ≤ n) (ht : 1 ≤ t) (hR : 0 ≤ R) : ∀ k, k ≤ xs.length → 0 ≤ (bst n t R xs k).1 ∧ (bst n t R xs k).1 ≤ R * t := by
  intro k
  induction k with
  | zero => intro _; simp [bst]; exact Int.mul_nonneg hR (by omega)
  | succ k ih =>
    intro hk
    obtain ⟨x, hx⟩ : ∃ x, xs[k]? = some x := ⟨_, List.getElem?_eq_getElem (by omega)⟩
    obtain ⟨h0, h1⟩ := ih (by omega)
    have h2 := (hF k x hx).1
    have h3 := (bst_lat (n := n) (t := t) (R := R) hF k (by omega)).2 x hx
    rw [bst_succ hx]
    have h4 : 0 ≤ x.l * t := Int.mul_nonneg (by omega) (by omega)
    have h5 : (bst n t R xs k).2 * n ≤ x.a * n := Int.mul_le_mul_of_nonneg_right h3 (by omega)
    have h6 : 0 ≤ R * t := Int.mul_nonneg hR (by omega)
    have h7 := pas_eq (n := n) h3 h1
    generalize pas n t R (bst n t R xs k).1 (bst n t R xs k).2 x.a = v at *
    simp only
    split <;> omega
/-- What is in it when packet k comes. -/
theorem pas_bounds {n t R : Int} {xs : List It} (hF : Fine xs) (hn : 1 ≤ n) (ht : 1 ≤ t) (hR : 0 ≤ R) {k : Nat} {x : It} (hx : xs[k]? = some x) : 0 ≤ pas n t R (bst n t R xs k).1 (bst n t R xs k).2 x.a ∧ pas n t R (bst n t R xs k).1 (bst n t R xs k).2 x.a ≤ R * t := by
  have hk : k < xs.length := (List.getElem?_eq_some_iff.1 hx).1
  obtain ⟨h0, h1⟩ := bst_lev hF hn ht hR k (by omega)
  have h3 := (bst_lat (n := n) (t := t) (R := R) hF k (by omega)).2 x hx
  have h5 : (bst n t R xs k).2 * n ≤ x.a * n := Int.mul_le_mul_of_nonneg_right h3 (by omega)
  have h6 : 0 ≤ R * t := Int.mul_nonneg hR (by omega)
  rw [pas_eq (n := n) h3 h1]
  omega

/-- Two ways to say who conforms. -/
theorem bst_due {n t R : Int} {xs : List It} (hF : Fine xs) (hn : 1 ≤ n) (ht : 1 ≤ t) (hR : 0 ≤ R) : ∀ k, k ≤ xs.length → (bst n t R xs k).1 = R * t - max 0 (due n t R xs k - (bst n t R xs k).2 * n) := by
  intro k
  induction k with
  | zero => intro _; simp [bst, due]
  | succ k ih =>
    intro hk
    obtain ⟨x, hx⟩ : ∃ x, xs[k]? = some x := ⟨_, List.getElem?_eq_getElem (by omega)⟩
    have h1 := ih (by omega)
    have h2 := (hF k x hx).1
    have h3 := (bst_lat (n := n) (t := t) (R := R) hF k (by omega)).2 x hx
    rw [bst_succ hx, due_succ hx]
    have h4 : 0 ≤ x.l * t := Int.mul_nonneg (by omega) (by omega)
    have h5 : (bst n t R xs k).2 * n ≤ x.a * n := Int.mul_le_mul_of_nonneg_right h3 (by omega)
    have h6 : 0 ≤ R * t := Int.mul_nonneg hR (by omega)
    have h8 : (if x.a ≤ (bst n t R xs k).2 then (bst n t R xs k).2 else x.a) = x.a := by split <;> omega
    have h7 := pas_eq (n := n) h3 (bst_lev hF hn ht hR k (by omega)).2
    rw [h8]
    generalize pas n t R (bst n t R xs k).1 (bst n t R xs k).2 x.a = v at *
    generalize x.a * n = p at *
    generalize (bst n t R xs k).2 * n = p2 at *
    generalize x.l * t = q at *
    generalize R * t = r at *
    simp only
    repeat' split
    all_goals omega
theorem bok_cok {n t R : Int} {xs : List It} (hF : Fine xs) (hn : 1 ≤ n) (ht : 1 ≤ t) (hR : 0 ≤ R) (k : Nat) (hk : k < xs.length) : bok n t R xs k = cok n t R xs k := by
  obtain ⟨x, hx⟩ : ∃ x, xs[k]? = some x := ⟨_, List.getElem?_eq_getElem hk⟩
  have h1 := bst_due hF hn ht hR k (by omega)
  have h2 := (hF k x hx).1
  have h3 := (bst_lat (n := n) (t := t) (R := R) hF k (by omega)).2 x hx
  simp only [bok, cok, hx]
  have h4 : 0 ≤ x.l * t := Int.mul_nonneg (by omega) (by omega)
  have h5 : (bst n t R xs k).2 * n ≤ x.a * n := Int.mul_le_mul_of_nonneg_right h3 (by omega)
  have h7 := pas_eq (n := n) h3 (bst_lev hF hn ht hR k (by omega)).2
  generalize pas n t R (bst n t R xs k).1 (bst n t R xs k).2 x.a = v at *
  generalize x.a * n = p at *
  generalize (bst n t R xs k).2 * n = p2 at *
  generalize x.l * t = q at *
  generalize R * t = r at *
  rw [← decide_not]
  apply decide_eq_decide.2
  repeat' split
  all_goals omega
theorem due_bounds {n t R : Int} {xs : List It} (hF : Fine xs) (hn : 1 ≤ n) (ht : 1 ≤ t) (hR : 0 ≤ R) : ∀ k, k ≤ xs.length → 0 ≤ due n t R xs k ∧ due n t R xs k ≤ 1000000000 * n + R * t := by
  intro k
  induction k with
  | zero => intro _; simp [due]; have := Int.mul_nonneg hR (by omega : 0 ≤ t); omega
  | succ k ih =>
    intro hk
    obtain ⟨x, hx⟩ : ∃ x, xs[k]? = some x := ⟨_, List.getElem?_eq_getElem (by omega)⟩
    have h1 := ih (by omega)
    have h2 := (hF k x hx).1
    rw [due_succ hx]
    have h4 : 0 ≤ x.l * t := Int.mul_nonneg (by omega) (by omega)
    have h5 : 0 ≤ x.a * n := Int.mul_nonneg (by omega) (by omega)
    have h6 : x.a * n ≤ 1000000000 * n := Int.mul_le_mul_of_nonneg_right (by omega) (by omega)
    generalize x.a * n = p at *
    generalize x.l * t = q at *
    generalize R * t = r at *
    repeat' split
    all_goals omega

/-! bounds -/
/-- The bytes of packets i, .., k - 1. -/
def sumLB (L : List It) (i : Nat) : Nat → Int
  | 0 => 0
  | k + 1 => if k < i then 0 else sumLB L i k + match L[k]? with | none => 0 | some x => x.l
theorem sumLB_self (L : List It) (i : Nat) : sumLB L i i = 0 := by
  cases i with
  | zero => rfl
  | succ i => simp [sumLB]
theorem sumLB_succ {L : List It} {i k : Nat} {x : It} (hx : L[k]? = some x) (h : i ≤ k) : sumLB L i (k + 1) = sumLB L i k + x.l := by
  simp only [sumLB, hx]; rw [if_neg (by omega)]
theorem sumLB_append {L : List It} {M : List It} {i : Nat} : ∀ k, k ≤ L.length → sumLB (L ++ M) i k = sumLB L i k := by
  intro k
  induction k with
  | zero => intro _; rfl
  | succ k ih =>
    intro hk
    simp only [sumLB]
    rw [ih (by omega), List.getElem?_append_left (by omega)]
/-- In any row of these packets no more bytes than the room and what is filled meanwhile. -/
def Bnd (n t R : Int) (L : List It) : Prop := ∀ (i k : Nat) (x y : It), i ≤ k → L[i]? = some x → L[k]? = some y → sumLB L i (k + 1) * t ≤ R * t + (y.a - x.a) * n
/-- The packets that conformed, of the first k. -/
def kept (n t R : Int) (xs : List It) : Nat → List It
  | 0 => []
  | k + 1 => match xs[k]? with
    | none => kept n t R xs k
    | some x => if bok n t R xs k then kept n t R xs k ++ [x] else kept n t R xs k
theorem kept_succ {n t R : Int} {xs : List It} {k : Nat} {x : It} (hx : xs[k]? = some x) : kept n t R xs (k + 1) = if bok n t R xs k then kept n t R xs k ++ [x] else kept n t R xs k := by simp only [kept, hx]
theorem bok_at {n t R : Int} {xs : List It} {k : Nat} {x : It} (hx : xs[k]? = some x) : bok n t R xs k = decide (x.l * t ≤ pas n t R (bst n t R xs k).1 (bst n t R xs k).2 x.a) := by simp only [bok, hx]
theorem kept_le (n t R : Int) (xs : List It) : ∀ k, (kept n t R xs k).length ≤ k := by
  intro k
  induction k with
  | zero => simp [kept]
  | succ k ih =>
    simp only [kept]
    split
    · omega
    · split
      · simp; omega
      · omega
theorem kept_mem {n t R : Int} {xs : List It} : ∀ k x, x ∈ kept n t R xs k → x ∈ xs := by
  intro k
  induction k with
  | zero => intro x h; simp [kept] at h
  | succ k ih =>
    intro x h
    simp only [kept] at h
    split at h
    · exact ih x h
    · rename_i y hy
      split at h
      · rcases List.mem_append.1 h with h | h
        · exact ih x h
        · simp at h; subst h; exact List.mem_of_getElem? hy
      · exact ih x h
/-- What a level is worth: no row of those that conformed would be broken by as many more. -/
theorem lev_iff {n t R : Int} {xs : List It} (hF : Fine xs) (hn : 1 ≤ n) (ht : 1 ≤ t) (hR : 0 ≤ R) : ∀ k, k ≤ xs.length → ∀ z, z ≤ (bst n t R xs k).1 ↔ z ≤ R * t ∧ ∀ (i : Nat) (x : It), (kept n t R xs k)[i]? = some x → sumLB (kept n t R xs k) i (kept n t R xs k).length * t + z ≤ R * t + ((bst n t R xs k).2 - x.a) * n := by
  intro k
  induction k with
  | zero => intro _ z; simp [bst, kept]
  | succ k ih =>
    intro hk z
    obtain ⟨x, hx⟩ : ∃ x, xs[k]? = some x := ⟨_, List.getElem?_eq_getElem (by omega)⟩
    have h1 := ih (by omega)
    have h2 := (hF k x hx).1
    have h3 := (bst_lat (n := n) (t := t) (R := R) hF k (by omega)).2 x hx
    rw [bst_succ hx, kept_succ hx, bok_at hx]
    have h4 : 0 ≤ x.l * t := Int.mul_nonneg (by omega) (by omega)
    have h5 : (bst n t R xs k).2 * n ≤ x.a * n := Int.mul_le_mul_of_nonneg_right h3 (by omega)
    have h6 : 0 ≤ R * t := Int.mul_nonneg hR (by omega)
    have h8 : (if x.a ≤ (bst n t R xs k).2 then (bst n t R xs k).2 else x.a) = x.a := by split <;> omega
    have h7 := pas_eq (n := n) h3 (bst_lev hF hn ht hR k (by omega)).2
    have key : ∀ z, z ≤ pas n t R (bst n t R xs k).1 (bst n t R xs k).2 x.a ↔ z ≤ R * t ∧ ∀ (i : Nat) (y : It), (kept n t R xs k)[i]? = some y → sumLB (kept n t R xs k) i (kept n t R xs k).length * t + z ≤ R * t + (x.a - y.a) * n := by
      intro z
      rw [h7]
      constructor
      · intro hz
        refine ⟨by omega, fun i y hy => ?_⟩
        have := ((h1 (z - (x.a * n - (bst n t R xs k).2 * n))).1 (by omega)).2 i y hy
        rw [Int.sub_mul] at this ⊢
        omega
      · rintro ⟨hz, ha⟩
        have := (h1 (z - (x.a * n - (bst n t R xs k).2 * n))).2 ⟨by omega, fun i y hy => by
          have := ha i y hy
          rw [Int.sub_mul] at this ⊢
          omega⟩
        omega
    rw [h8]
    by_cases hc : x.l * t ≤ pas n t R (bst n t R xs k).1 (bst n t R xs k).2 x.a
    · simp only [hc, if_true, decide_true]
      rw [show (z ≤ pas n t R (bst n t R xs k).1 (bst n t R xs k).2 x.a - x.l * t) ↔ (z + x.l * t ≤ pas n t R (bst n t R xs k).1 (bst n t R xs k).2 x.a) by omega, key]
      have hlen : (kept n t R xs k ++ [x]).length = (kept n t R xs k).length + 1 := by simp
      have hsum : ∀ i, i ≤ (kept n t R xs k).length → sumLB (kept n t R xs k ++ [x]) i ((kept n t R xs k).length + 1) = sumLB (kept n t R xs k) i (kept n t R xs k).length + x.l := by
        intro i hi
        rw [sumLB_succ (x := x) (by simp) hi, sumLB_append _ (Nat.le_refl _)]
      constructor
      · rintro ⟨hz, ha⟩
        refine ⟨by omega, fun i y hy => ?_⟩
        rw [hlen]
        have hi : i < (kept n t R xs k).length + 1 := by have := (List.getElem?_eq_some_iff.1 hy).1; simpa using this
        rw [hsum i (by omega), Int.add_mul]
        by_cases hil : i = (kept n t R xs k).length
        · subst hil
          simp at hy; subst hy
          rw [sumLB_self]
          simp; omega
        · rw [List.getElem?_append_left (by omega)] at hy
          have := ha i y hy
          omega
      · rintro ⟨hz, ha⟩
        constructor
        · have := ha (kept n t R xs k).length x (by simp)
          rw [hlen, hsum _ (Nat.le_refl _), sumLB_self] at this
          simp at this; omega
        · intro i y hy
          have hi := (List.getElem?_eq_some_iff.1 hy).1
          have := ha i y (by rw [List.getElem?_append_left hi]; exact hy)
          rw [hlen, hsum i (by omega), Int.add_mul] at this
          omega
    · simp only [hc, if_false, decide_false, Bool.false_eq_true]
      exact key z
/-- With a packet behind: bounded still, just if it conforms. -/
theorem bnd_iff {n t R : Int} {xs : List It} (hF : Fine xs) (hn : 1 ≤ n) (ht : 1 ≤ t) (hR : 0 ≤ R) {k : Nat} {x : It} (hx : xs[k]? = some x) (hB : Bnd n t R (kept n t R xs k)) : Bnd n t R (kept n t R xs k ++ [x]) ↔ bok n t R xs k = true := by
  have hk : k < xs.length := (List.getElem?_eq_some_iff.1 hx).1
  have h1 := lev_iff hF hn ht hR k (by omega)
  have h2 := (hF k x hx).1
  have h3 := (bst_lat (n := n) (t := t) (R := R) hF k (by omega)).2 x hx
  have h5 : (bst n t R xs k).2 * n ≤ x.a * n := Int.mul_le_mul_of_nonneg_right h3 (by omega)
  have h7 := pas_eq (n := n) h3 (bst_lev hF hn ht hR k (by omega)).2
  have hsum : ∀ i, i ≤ (kept n t R xs k).length → sumLB (kept n t R xs k ++ [x]) i ((kept n t R xs k).length + 1) = sumLB (kept n t R xs k) i (kept n t R xs k).length + x.l := by
    intro i hi
    rw [sumLB_succ (x := x) (by simp) hi, sumLB_append _ (Nat.le_refl _)]
  rw [bok_at hx, decide_eq_true_iff, h7]
  constructor
  · intro hb
    have hl := hb (kept n t R xs k).length (kept n t R xs k).length x x (Nat.le_refl _) (by simp) (by simp)
    rw [hsum _ (Nat.le_refl _), sumLB_self] at hl
    have := (h1 (x.l * t - (x.a * n - (bst n t R xs k).2 * n))).2 ⟨by simp at hl; omega, fun i y hy => by
      have hi := (List.getElem?_eq_some_iff.1 hy).1
      have := hb i (kept n t R xs k).length y x (by omega) (by rw [List.getElem?_append_left hi]; exact hy) (by simp)
      rw [hsum i (by omega), Int.add_mul, Int.sub_mul] at this
      rw [Int.sub_mul]
      omega⟩
    simp at hl
    omega
  · intro hc i m y z him hy hz
    have hm : m < (kept n t R xs k).length + 1 := by have := (List.getElem?_eq_some_iff.1 hz).1; simpa using this
    by_cases hml : m = (kept n t R xs k).length
    · subst hml
      simp at hz; subst hz
      rw [hsum i him, Int.add_mul]
      by_cases hil : i = (kept n t R xs k).length
      · subst hil
        simp at hy; subst hy
        rw [sumLB_self]
        simp; omega
      · rw [List.getElem?_append_left (by omega)] at hy
        have := ((h1 (x.l * t - (x.a * n - (bst n t R xs k).2 * n))).1 (by omega)).2 i y hy
        rw [Int.sub_mul] at this ⊢
        omega
    · rw [List.getElem?_append_left (by omega)] at hy hz
      rw [sumLB_append (m + 1) (by omega)]
      exact hB i m y z him hy hz
theorem bnd_kept {n t R : Int} {xs : List It} (hF : Fine xs) (hn : 1 ≤ n) (ht : 1 ≤ t) (hR : 0 ≤ R) : ∀ k, k ≤ xs.length → Bnd n t R (kept n t R xs k) := by
  intro k
  induction k with
  | zero => intro _ i m x y _ hx; simp [kept] at hx
  | succ k ih =>
    intro hk
    obtain ⟨x, hx⟩ : ∃ x, xs[k]? = some x := ⟨_, List.getElem?_eq_getElem (by omega)⟩
    have hB := ih (by omega)
    rw [kept_succ hx]
    split
    · rename_i hb; exact (bnd_iff hF hn ht hR hx hB).2 hb
    · exact hB

/-! colors -/
/-- What finds no room. -/
def ovr (n t R lev lat now : Int) : Int := if now ≤ lat then 0 else if lev + (now - lat) * n ≤ R * t then 0 else lev + (now - lat) * n - R * t
/-- What is in the second room when so much more comes. -/
def pou (t E lev more : Int) : Int := if lev + more ≤ E * t then lev + more else E * t
/-- What is in the second room ahead of packet k. -/
def est (n t R E : Int) (xs : List It) : Nat → Int
  | 0 => E * t
  | k + 1 => match xs[k]? with
    | none => est n t R E xs k
    | some x => if bok n t R xs k then pou t E (est n t R E xs k) (ovr n t R (bst n t R xs k).1 (bst n t R xs k).2 x.a) else if x.l * t ≤ pou t E (est n t R E xs k) (ovr n t R (bst n t R xs k).1 (bst n t R xs k).2 x.a) then pou t E (est n t R E xs k) (ovr n t R (bst n t R xs k).1 (bst n t R xs k).2 x.a) - x.l * t else pou t E (est n t R E xs k) (ovr n t R (bst n t R xs k).1 (bst n t R xs k).2 x.a)
/-- The color of packet k. -/
def col (n t R E : Int) (xs : List It) (k : Nat) : Int := match xs[k]? with
  | none => 0
  | some x => if bok n t R xs k then 1 else if x.l * t ≤ pou t E (est n t R E xs k) (ovr n t R (bst n t R xs k).1 (bst n t R xs k).2 x.a) then 2 else 3
theorem est_succ {n t R E : Int} {xs : List It} {k : Nat} {x : It} (hx : xs[k]? = some x) : est n t R E xs (k + 1) = if bok n t R xs k then pou t E (est n t R E xs k) (ovr n t R (bst n t R xs k).1 (bst n t R xs k).2 x.a) else if x.l * t ≤ pou t E (est n t R E xs k) (ovr n t R (bst n t R xs k).1 (bst n t R xs k).2 x.a) then pou t E (est n t R E xs k) (ovr n t R (bst n t R xs k).1 (bst n t R xs k).2 x.a) - x.l * t else pou t E (est n t R E xs k) (ovr n t R (bst n t R xs k).1 (bst n t R xs k).2 x.a) := by simp only [est, hx]
theorem col_at {n t R E : Int} {xs : List It} {k : Nat} {x : It} (hx : xs[k]? = some x) : col n t R E xs k = if bok n t R xs k then 1 else if x.l * t ≤ pou t E (est n t R E xs k) (ovr n t R (bst n t R xs k).1 (bst n t R xs k).2 x.a) then 2 else 3 := by simp only [col, hx]
theorem ovr_bounds {n t R lev lat now : Int} : 0 ≤ ovr n t R lev lat now := by
  unfold ovr
  split
  · omega
  · split <;> omega
theorem est_bounds {n t R E : Int} {xs : List It} (hF : Fine xs) (ht : 1 ≤ t) (hE : 0 ≤ E) : ∀ k, k ≤ xs.length → 0 ≤ est n t R E xs k ∧ est n t R E xs k ≤ E * t := by
  intro k
  induction k with
  | zero => intro _; simp [est]; exact Int.mul_nonneg hE (by omega)
  | succ k ih =>
    intro hk
    obtain ⟨x, hx⟩ : ∃ x, xs[k]? = some x := ⟨_, List.getElem?_eq_getElem (by omega)⟩
    have h1 := ih (by omega)
    have h2 := (hF k x hx).1
    have h4 : 0 ≤ x.l * t := Int.mul_nonneg (by omega) (by omega)
    have h5 := ovr_bounds (n := n) (t := t) (R := R) (lev := (bst n t R xs k).1) (lat := (bst n t R xs k).2) (now := x.a)
    rw [est_succ hx]
    generalize ovr n t R (bst n t R xs k).1 (bst n t R xs k).2 x.a = o at *
    have h6 : pou t E (est n t R E xs k) o = min (est n t R E xs k + o) (E * t) := by unfold pou; split <;> omega
    generalize pou t E (est n t R E xs k) o = p at *
    repeat' split
    all_goals omega
theorem col_green {n t R E : Int} {xs : List It} {k : Nat} (hk : k < xs.length) : (col n t R E xs k = 1) ↔ bok n t R xs k = true := by
  obtain ⟨x, hx⟩ : ∃ x, xs[k]? = some x := ⟨_, List.getElem?_eq_getElem hk⟩
  rw [col_at hx]
  split
  · simp [*]
  · split <;> simp [*]
theorem col_none {n t R : Int} {xs : List It} (hF : Fine xs) (ht : 1 ≤ t) {k : Nat} (hk : k < xs.length) : col n t R 0 xs k ≠ 2 := by
  obtain ⟨x, hx⟩ : ∃ x, xs[k]? = some x := ⟨_, List.getElem?_eq_getElem hk⟩
  have h1 := est_bounds (n := n) (R := R) hF ht (Int.le_refl 0) k (by omega)
  have h2 := (hF k x hx).1
  have h4 : 0 < x.l * t := Int.mul_pos (by omega) (by omega)
  have h5 := ovr_bounds (n := n) (t := t) (R := R) (lev := (bst n t R xs k).1) (lat := (bst n t R xs k).2) (now := x.a)
  rw [col_at hx]
  generalize ovr n t R (bst n t R xs k).1 (bst n t R xs k).2 x.a = o at *
  have h6 : pou t 0 (est n t R 0 xs k) o = min (est n t R 0 xs k + o) (0 * t) := by unfold pou; split <;> omega
  generalize pou t 0 (est n t R 0 xs k) o = p at *
  split
  · decide
  · rw [if_neg (by omega)]; decide

/-! two buckets -/
/-- What is in the first one, and its latest time, ahead of packet k: it is asked for what the second one (n2, t2, R2) has. -/
def tst (n t R n2 t2 R2 : Int) (xs : List It) : Nat → Int × Int
  | 0 => (R * t, 0)
  | k + 1 => match xs[k]? with
    | none => tst n t R n2 t2 R2 xs k
    | some x => if bok n2 t2 R2 xs k then (if x.l * t ≤ pas n t R (tst n t R n2 t2 R2 xs k).1 (tst n t R n2 t2 R2 xs k).2 x.a then pas n t R (tst n t R n2 t2 R2 xs k).1 (tst n t R n2 t2 R2 xs k).2 x.a - x.l * t else pas n t R (tst n t R n2 t2 R2 xs k).1 (tst n t R n2 t2 R2 xs k).2 x.a, if x.a ≤ (tst n t R n2 t2 R2 xs k).2 then (tst n t R n2 t2 R2 xs k).2 else x.a) else tst n t R n2 t2 R2 xs k
def twc (n t R n2 t2 R2 : Int) (xs : List It) (k : Nat) : Int := match xs[k]? with
  | none => 0
  | some x => if bok n2 t2 R2 xs k then (if x.l * t ≤ pas n t R (tst n t R n2 t2 R2 xs k).1 (tst n t R n2 t2 R2 xs k).2 x.a then 1 else 2) else 3
theorem tst_succ {n t R n2 t2 R2 : Int} {xs : List It} {k : Nat} {x : It} (hx : xs[k]? = some x) : tst n t R n2 t2 R2 xs (k + 1) = if bok n2 t2 R2 xs k then (if x.l * t ≤ pas n t R (tst n t R n2 t2 R2 xs k).1 (tst n t R n2 t2 R2 xs k).2 x.a then pas n t R (tst n t R n2 t2 R2 xs k).1 (tst n t R n2 t2 R2 xs k).2 x.a - x.l * t else pas n t R (tst n t R n2 t2 R2 xs k).1 (tst n t R n2 t2 R2 xs k).2 x.a, if x.a ≤ (tst n t R n2 t2 R2 xs k).2 then (tst n t R n2 t2 R2 xs k).2 else x.a) else tst n t R n2 t2 R2 xs k := by simp only [tst, hx]
theorem twc_at {n t R n2 t2 R2 : Int} {xs : List It} {k : Nat} {x : It} (hx : xs[k]? = some x) : twc n t R n2 t2 R2 xs k = if bok n2 t2 R2 xs k then (if x.l * t ≤ pas n t R (tst n t R n2 t2 R2 xs k).1 (tst n t R n2 t2 R2 xs k).2 x.a then 1 else 2) else 3 := by simp only [twc, hx]
theorem twc_red {n t R n2 t2 R2 : Int} {xs : List It} {k : Nat} (hk : k < xs.length) : (twc n t R n2 t2 R2 xs k ≠ 3) ↔ bok n2 t2 R2 xs k = true := by
  obtain ⟨x, hx⟩ : ∃ x, xs[k]? = some x := ⟨_, List.getElem?_eq_getElem hk⟩
  rw [twc_at hx]
  split
  · split <;> simp [*]
  · simp [*]
theorem tst_lat {n t R n2 t2 R2 : Int} {xs : List It} (hF : Fine xs) : ∀ k, k ≤ xs.length → 0 ≤ (tst n t R n2 t2 R2 xs k).2 ∧ (tst n t R n2 t2 R2 xs k).2 ≤ (bst n2 t2 R2 xs k).2 := by
  intro k
  induction k with
  | zero => intro _; simp [tst, bst]
  | succ k ih =>
    intro hk
    obtain ⟨x, hx⟩ : ∃ x, xs[k]? = some x := ⟨_, List.getElem?_eq_getElem (by omega)⟩
    have h1 := ih (by omega)
    have h2 := (hF k x hx).1
    have h3 := (bst_lat (n := n2) (t := t2) (R := R2) hF k (by omega)).2 x hx
    rw [tst_succ hx, bst_succ hx]
    simp only
    split
    · simp only; repeat' split
      all_goals omega
    · repeat' split
      all_goals omega
theorem tst_lev {n t R n2 t2 R2 : Int} {xs : List It} (hF : Fine xs) (hn : 1 ≤ n) (ht : 1 ≤ t) (hR : 0 ≤ R) : ∀ k, k ≤ xs.length → 0 ≤ (tst n t R n2 t2 R2 xs k).1 ∧ (tst n t R n2 t2 R2 xs k).1 ≤ R * t := by
  intro k
  induction k with
  | zero => intro _; simp [tst]; exact Int.mul_nonneg hR (by omega)
  | succ k ih =>
    intro hk
    obtain ⟨x, hx⟩ : ∃ x, xs[k]? = some x := ⟨_, List.getElem?_eq_getElem (by omega)⟩
    obtain ⟨h0, h1⟩ := ih (by omega)
    have h2 := (hF k x hx).1
    have h3 := (bst_lat (n := n2) (t := t2) (R := R2) hF k (by omega)).2 x hx
    have h3' := (tst_lat (n := n) (t := t) (R := R) (n2 := n2) (t2 := t2) (R2 := R2) hF k (by omega)).2
    have h3'' : (tst n t R n2 t2 R2 xs k).2 ≤ x.a := by omega
    rw [tst_succ hx]
    have h4 : 0 ≤ x.l * t := Int.mul_nonneg (by omega) (by omega)
    have h5 : (tst n t R n2 t2 R2 xs k).2 * n ≤ x.a * n := Int.mul_le_mul_of_nonneg_right h3'' (by omega)
    have h6 : 0 ≤ R * t := Int.mul_nonneg hR (by omega)
    have h7 := pas_eq (n := n) h3'' h1
    generalize pas n t R (tst n t R n2 t2 R2 xs k).1 (tst n t R n2 t2 R2 xs k).2 x.a = v at *
    split
    · simp only
      split <;> omega
    · omega

/-! shaping -/
def lat1 (lat a : Int) : Int := if a ≤ lat then lat else a
/-- The first time at which l bytes are in it. -/
def whn (n t lev lat l : Int) : Int := lat + ((if l * t - lev ≤ 0 then 0 else l * t - lev) + n - 1) / n
/-- Level and latest time ahead of packet k, where each goes as soon as may be. -/
def sst (n t R : Int) (xs : List It) : Nat → Int × Int
  | 0 => (R * t, 0)
  | k + 1 => match xs[k]? with
    | none => sst n t R xs k
    | some x => (pas n t R (pas n t R (sst n t R xs k).1 (sst n t R xs k).2 x.a) (lat1 (sst n t R xs k).2 x.a) (whn n t (pas n t R (sst n t R xs k).1 (sst n t R xs k).2 x.a) (lat1 (sst n t R xs k).2 x.a) x.l) - x.l * t, whn n t (pas n t R (sst n t R xs k).1 (sst n t R xs k).2 x.a) (lat1 (sst n t R xs k).2 x.a) x.l)
/-- When packet k goes. -/
def goes (n t R : Int) (xs : List It) (k : Nat) : Int := match xs[k]? with
  | none => 0
  | some x => whn n t (pas n t R (sst n t R xs k).1 (sst n t R xs k).2 x.a) (lat1 (sst n t R xs k).2 x.a) x.l
theorem sst_succ {n t R : Int} {xs : List It} {k : Nat} {x : It} (hx : xs[k]? = some x) : sst n t R xs (k + 1) = (pas n t R (pas n t R (sst n t R xs k).1 (sst n t R xs k).2 x.a) (lat1 (sst n t R xs k).2 x.a) (whn n t (pas n t R (sst n t R xs k).1 (sst n t R xs k).2 x.a) (lat1 (sst n t R xs k).2 x.a) x.l) - x.l * t, whn n t (pas n t R (sst n t R xs k).1 (sst n t R xs k).2 x.a) (lat1 (sst n t R xs k).2 x.a) x.l) := by simp only [sst, hx]
theorem goes_at {n t R : Int} {xs : List It} {k : Nat} {x : It} (hx : xs[k]? = some x) : goes n t R xs k = whn n t (pas n t R (sst n t R xs k).1 (sst n t R xs k).2 x.a) (lat1 (sst n t R xs k).2 x.a) x.l := by simp only [goes, hx]
theorem sst_two {n t R : Int} {xs : List It} {k : Nat} {x : It} (hx : xs[k]? = some x) : (sst n t R xs (k + 1)).2 = goes n t R xs k := by rw [sst_succ hx, goes_at hx]
theorem whn_bounds {n t lev lat l : Int} (hn : 1 ≤ n) : lat ≤ whn n t lev lat l ∧ l * t - lev ≤ (whn n t lev lat l - lat) * n ∧ (lat < whn n t lev lat l → (whn n t lev lat l - 1 - lat) * n < l * t - lev) := by
  unfold whn
  generalize hm : (if l * t - lev ≤ 0 then 0 else l * t - lev) = m
  have hm0 : 0 ≤ m := by split at hm <;> omega
  have hm1 : l * t - lev ≤ m := by split at hm <;> omega
  have h1 := Int.mul_ediv_add_emod (m + n - 1) n
  have h2 := Int.emod_nonneg (m + n - 1) (by omega : n ≠ 0)
  have h3 := Int.emod_lt_of_pos (m + n - 1) (by omega : 0 < n)
  have h4 : 0 ≤ (m + n - 1) / n := Int.ediv_nonneg (by omega) (by omega)
  generalize (m + n - 1) % n = r at *
  have h5 : (lat + (m + n - 1) / n - lat) * n = n * ((m + n - 1) / n) := by rw [Int.mul_comm]; congr 1; omega
  have h6 : (lat + (m + n - 1) / n - 1 - lat) * n = n * ((m + n - 1) / n) - n := by
    rw [Int.mul_comm, show lat + (m + n - 1) / n - 1 - lat = (m + n - 1) / n - 1 by omega, Int.mul_sub]; simp
  rw [h5, h6]
  refine ⟨by omega, by omega, fun hlt => ?_⟩
  have hq : 1 ≤ (m + n - 1) / n := by omega
  have h7 : n * 1 ≤ n * ((m + n - 1) / n) := Int.mul_le_mul_of_nonneg_left hq (by omega)
  have hm2 : 1 ≤ m := by omega
  have : m = l * t - lev := by split at hm <;> omega
  omega
/-- What may not go: none of the first k. -/
def Goes (n t R : Int) (xs : List It) (k : Nat) : Prop := ∀ (j : Nat) (x : It), j < k → xs[j]? = some x → x.l ≤ R ∧ goes n t R xs j ≤ 1000000000
theorem sst_inv {n t R : Int} {xs : List It} (hF : Fine xs) (hn : 1 ≤ n) (ht : 1 ≤ t) (hR : 0 ≤ R) : ∀ k, k ≤ xs.length → Goes n t R xs k → (0 ≤ (sst n t R xs k).1 ∧ (sst n t R xs k).1 ≤ R * t) ∧ 0 ≤ (sst n t R xs k).2 ∧ (sst n t R xs k).2 ≤ 1000000000 := by
  intro k
  induction k with
  | zero => intro _ _; simp [sst]; exact Int.mul_nonneg hR (by omega)
  | succ k ih =>
    intro hk hG
    obtain ⟨x, hx⟩ : ∃ x, xs[k]? = some x := ⟨_, List.getElem?_eq_getElem (by omega)⟩
    obtain ⟨⟨h0, h1⟩, hl0, hl1⟩ := ih (by omega) (fun j y hj hy => hG j y (by omega) hy)
    have h2 := (hF k x hx).1
    obtain ⟨g1, g2⟩ := hG k x (by omega) hx
    rw [goes_at hx] at g2
    rw [sst_succ hx]
    simp only
    have h6 : 0 ≤ R * t := Int.mul_nonneg hR (by omega)
    have hp : 0 ≤ pas n t R (sst n t R xs k).1 (sst n t R xs k).2 x.a ∧ pas n t R (sst n t R xs k).1 (sst n t R xs k).2 x.a ≤ R * t := by
      by_cases hc : x.a ≤ (sst n t R xs k).2
      · rw [pas, if_pos hc]; exact ⟨h0, h1⟩
      · rw [pas_eq (by omega) h1]
        have h5 : (sst n t R xs k).2 * n ≤ x.a * n := Int.mul_le_mul_of_nonneg_right (by omega) (by omega)
        omega
    generalize pas n t R (sst n t R xs k).1 (sst n t R xs k).2 x.a = v at *
    have hla : 0 ≤ lat1 (sst n t R xs k).2 x.a := by unfold lat1; split <;> omega
    generalize lat1 (sst n t R xs k).2 x.a = la at *
    obtain ⟨w1, w2, _⟩ := whn_bounds (n := n) (t := t) (lev := v) (lat := la) (l := x.l) hn
    rw [pas_eq w1 hp.2]
    rw [Int.sub_mul] at w2
    have h8 : x.l * t ≤ R * t := Int.mul_le_mul_of_nonneg_right g1 (by omega)
    have h9 : 0 ≤ x.l * t := Int.mul_nonneg (by omega) (by omega)
    have h10 : la * n ≤ whn n t v la x.l * n := Int.mul_le_mul_of_nonneg_right w1 (by omega)
    omega
theorem pas_pas {n t R lev lat a b : Int} (hn : 1 ≤ n) (h : lat1 lat a ≤ b) (hl : lev ≤ R * t) : pas n t R (pas n t R lev lat a) (lat1 lat a) b = pas n t R lev lat b := by
  unfold lat1 at *
  by_cases hc : a ≤ lat
  · rw [if_pos hc] at *
    rw [show pas n t R lev lat a = lev by rw [pas, if_pos hc]]
  · rw [if_neg hc] at *
    have e1 := pas_eq (n := n) (lat := lat) (now := a) (by omega) hl
    have h5 : lat * n ≤ a * n := Int.mul_le_mul_of_nonneg_right (by omega) (by omega)
    have h6 : a * n ≤ b * n := Int.mul_le_mul_of_nonneg_right (by omega) (by omega)
    rw [pas_eq (lat := a) h (by omega), e1, pas_eq (lat := lat) (now := b) (by omega) hl]
    omega
/-- The same packets, the first m each at the time when it goes. -/
def mvd (n t R : Int) (xs : List It) (m : Nat) : List It := xs.mapIdx fun j x => if j < m then { x with a := goes n t R xs j } else x
theorem mvd_length (n t R : Int) (xs : List It) (m : Nat) : (mvd n t R xs m).length = xs.length := by simp [mvd]
theorem mvd_at {n t R : Int} {xs : List It} {m k : Nat} {x : It} (hx : xs[k]? = some x) : (mvd n t R xs m)[k]? = some (if k < m then { x with a := goes n t R xs k } else x) := by simp [mvd, hx]
theorem bst_congr {n t R : Int} {xs ys : List It} : ∀ k, (∀ j, j < k → xs[j]? = ys[j]?) → bst n t R xs k = bst n t R ys k := by
  intro k
  induction k with
  | zero => intro _; rfl
  | succ k ih =>
    intro h
    simp only [bst]
    rw [ih fun j hj => h j (by omega), h k (by omega)]
theorem goes_bounds {n t R : Int} {xs : List It} (_hF : Fine xs) (hn : 1 ≤ n) {k : Nat} {x : It} (hx : xs[k]? = some x) : x.a ≤ goes n t R xs k ∧ (sst n t R xs k).2 ≤ goes n t R xs k := by
  rw [goes_at hx]
  have := (whn_bounds (n := n) (t := t) (lev := pas n t R (sst n t R xs k).1 (sst n t R xs k).2 x.a) (lat := lat1 (sst n t R xs k).2 x.a) (l := x.l) hn).1
  have h2 : x.a ≤ lat1 (sst n t R xs k).2 x.a ∧ (sst n t R xs k).2 ≤ lat1 (sst n t R xs k).2 x.a := by unfold lat1; split <;> omega
  omega
/-- What is shaped goes through the bucket as it was shaped. -/
theorem bst_mvd {n t R : Int} {xs : List It} (hF : Fine xs) (hn : 1 ≤ n) (ht : 1 ≤ t) (hR : 0 ≤ R) : ∀ k, k ≤ xs.length → Goes n t R xs k → bst n t R (mvd n t R xs xs.length) k = sst n t R xs k := by
  intro k
  induction k with
  | zero => intro _ _; rfl
  | succ k ih =>
    intro hk hG
    obtain ⟨x, hx⟩ : ∃ x, xs[k]? = some x := ⟨_, List.getElem?_eq_getElem (by omega)⟩
    have hG' : Goes n t R xs k := fun j y hj hy => hG j y (by omega) hy
    obtain ⟨⟨h0, h1⟩, hl0, hl1⟩ := sst_inv hF hn ht hR k (by omega) hG'
    have hm := mvd_at (n := n) (t := t) (R := R) (m := xs.length) hx
    rw [if_pos (by omega)] at hm
    rw [bst_succ hm, ih (by omega) hG', sst_succ hx]
    obtain ⟨hb1, hb2⟩ := goes_bounds (n := n) (t := t) (R := R) hF hn hx
    have hla : lat1 (sst n t R xs k).2 x.a ≤ goes n t R xs k := by unfold lat1; split <;> omega
    have hpp := pas_pas (n := n) (t := t) (R := R) (lev := (sst n t R xs k).1) (lat := (sst n t R xs k).2) (a := x.a) (b := goes n t R xs k) hn hla h1
    have hs := (sst_inv hF hn ht hR (k + 1) hk hG).1.1
    rw [sst_succ hx] at hs
    rw [← goes_at hx] at hs ⊢
    simp only at hs ⊢
    rw [hpp] at hs ⊢
    rw [if_pos (by omega)]
    congr 1
    split <;> omega
theorem bok_mvd {n t R : Int} {xs : List It} (hF : Fine xs) (hn : 1 ≤ n) (ht : 1 ≤ t) (hR : 0 ≤ R) {k : Nat} (hk : k < xs.length) (hG : Goes n t R xs xs.length) : bok n t R (mvd n t R xs xs.length) k = true := by
  obtain ⟨x, hx⟩ : ∃ x, xs[k]? = some x := ⟨_, List.getElem?_eq_getElem hk⟩
  have hG' : Goes n t R xs k := fun j y hj hy => hG j y (by omega) hy
  obtain ⟨⟨h0, h1⟩, hl0, hl1⟩ := sst_inv hF hn ht hR k (by omega) hG'
  have hm := mvd_at (n := n) (t := t) (R := R) (m := xs.length) hx
  rw [if_pos (by omega)] at hm
  rw [bok_at hm, bst_mvd hF hn ht hR k (by omega) hG']
  obtain ⟨hb1, hb2⟩ := goes_bounds (n := n) (t := t) (R := R) hF hn hx
  have hla : lat1 (sst n t R xs k).2 x.a ≤ goes n t R xs k := by unfold lat1; split <;> omega
  have hpp := pas_pas (n := n) (t := t) (R := R) (lev := (sst n t R xs k).1) (lat := (sst n t R xs k).2) (a := x.a) (b := goes n t R xs k) hn hla h1
  have hs := (sst_inv hF hn ht hR (k + 1) (by omega) (fun j y hj hy => hG j y (by omega) hy)).1.1
  rw [sst_succ hx, ← goes_at hx] at hs
  simp only at hs ⊢
  rw [hpp] at hs
  simp; omega
/-- One tick sooner it would not conform. -/
theorem sooner {n t R : Int} {xs : List It} (hF : Fine xs) (hn : 1 ≤ n) (ht : 1 ≤ t) (hR : 0 ≤ R) {k : Nat} {x : It} (hx : xs[k]? = some x) (hG : Goes n t R xs xs.length) (ys : List It) (hys : ∀ j, j < k → ys[j]? = (mvd n t R xs xs.length)[j]?) (hyk : ys[k]? = some { x with a := goes n t R xs k - 1 }) (h1 : x.a < goes n t R xs k) (h2 : (sst n t R xs k).2 < goes n t R xs k) : bok n t R ys k = false := by
  have hk : k < xs.length := (List.getElem?_eq_some_iff.1 hx).1
  have hG' : Goes n t R xs k := fun j y hj hy => hG j y (by omega) hy
  obtain ⟨⟨h0, hc⟩, hl0, hl1⟩ := sst_inv hF hn ht hR k (by omega) hG'
  rw [bok_at hyk, bst_congr k hys, bst_mvd hF hn ht hR k (by omega) hG']
  simp only
  have hla : lat1 (sst n t R xs k).2 x.a ≤ goes n t R xs k - 1 := by unfold lat1; split <;> omega
  have hpp := pas_pas (n := n) (t := t) (R := R) (lev := (sst n t R xs k).1) (lat := (sst n t R xs k).2) (a := x.a) (b := goes n t R xs k - 1) hn hla hc
  rw [← hpp]
  have hp : pas n t R (sst n t R xs k).1 (sst n t R xs k).2 x.a ≤ R * t := by
    by_cases hc' : x.a ≤ (sst n t R xs k).2
    · rw [pas, if_pos hc']; exact hc
    · rw [pas_eq (by omega) hc]; omega
  rw [pas_eq hla hp]
  have hw := (whn_bounds (n := n) (t := t) (lev := pas n t R (sst n t R xs k).1 (sst n t R xs k).2 x.a) (lat := lat1 (sst n t R xs k).2 x.a) (l := x.l) hn).2.2
  rw [← goes_at hx] at hw
  have := hw (by omega)
  rw [Int.sub_mul] at this
  simp; omega
theorem sst_prev {n t R : Int} {xs : List It} {k : Nat} (hk : k + 1 < xs.length) : (sst n t R xs (k + 1)).2 = goes n t R xs k := by
  obtain ⟨x, hx⟩ : ∃ x, xs[k]? = some x := ⟨_, List.getElem?_eq_getElem (by omega)⟩
  exact sst_two hx
theorem fine_mvd {n t R : Int} {xs : List It} (hF : Fine xs) (hn : 1 ≤ n) (hG : Goes n t R xs xs.length) : Fine (mvd n t R xs xs.length) := by
  intro k y hy
  have hk : k < xs.length := by have := (List.getElem?_eq_some_iff.1 hy).1; rwa [mvd_length] at this
  obtain ⟨x, hx⟩ : ∃ x, xs[k]? = some x := ⟨_, List.getElem?_eq_getElem hk⟩
  rw [mvd_at hx, if_pos hk] at hy
  obtain rfl := Option.some.inj hy
  have h2 := (hF k x hx).1
  have hb := goes_bounds (n := n) (t := t) (R := R) hF hn hx
  have hg := hG k x hk hx
  refine ⟨⟨by simp only; omega, by simp only; omega, h2.2.2⟩, fun z hz => ?_⟩
  have hk1 : k + 1 < xs.length := by have := (List.getElem?_eq_some_iff.1 hz).1; rwa [mvd_length] at this
  obtain ⟨x1, hx1⟩ : ∃ x, xs[k + 1]? = some x := ⟨_, List.getElem?_eq_getElem hk1⟩
  rw [mvd_at hx1, if_pos hk1] at hz
  obtain rfl := Option.some.inj hz
  have hb1 := goes_bounds (n := n) (t := t) (R := R) hF hn hx1
  rw [sst_prev hk1] at hb1
  exact hb1.2
end Go.Proofs.YtpgdocmpbeabpaaDoor
