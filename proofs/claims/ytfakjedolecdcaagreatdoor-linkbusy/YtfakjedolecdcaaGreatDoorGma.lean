/-
  Tokens in plain numbers: what is in a bucket packet by packet, when cells should come, which packets are kept, the colors, and when packets go; the two ways to say who conforms agree; what conforms is bounded; what is shaped conforms, and one tick sooner would not. Conditions: packets that may be, in order; a bucket that may be.
  A bucket on its way, in memory: worth, pour, pass, draw, Check, tell and Take of package bucket: what each returns, what it leaves in the state, and that nothing else that was there before is otherwise. Conditions: a bucket that may be, a level within its room, times up to MaxTime.
  bucket.Check, tell and Take, New: what each returns, what it leaves in the state, and that nothing else that was there before is otherwise. Conditions: those of the texts ahead; Check and New: none.
  bucket.open: of a bucket that may not be what Check says; of packets that may not be what List says; else a full bucket; nothing that was there before is otherwise. Conditions: errors.errorType holds its handle; the packets lie in memory.
-/
import Derived.Test.YtfakjedolecdcaaGreatDoorGa
import Derived.Deep.RegionHeld3
import Derived.Deep.RegionWith
import Derived.Shelf.Abstract
namespace Go.Proofs.YtfakjedolecdcaaGreatDoor

/-- What is in a bucket (times t) when it is told the time now: bytes n in t ticks, room R. -/
def pas (n t R lev lat now : Int) : Int := if now ≤ lat then lev else if lev + (now - lat) * n ≤ R * t then lev + (now - lat) * n else R * t
/-- What is in it, and its latest time, ahead of packet k. -/
def bst (n t R : Int) (xs : List It) : Nat → Int × Int
  | 0 => (R * t, 0)
  | k + 1 => match xs[k]? with
    | none => bst n t R xs k
    | some x => (if x.l * t ≤ pas n t R (bst n t R xs k).1 (bst n t R xs k).2 x.a then pas n t R (bst n t R xs k).1 (bst n t R xs k).2 x.a - x.l * t else pas n t R (bst n t R xs k).1 (bst n t R xs k).2 x.a, if x.a ≤ (bst n t R xs k).2 then (bst n t R xs k).2 else x.a)
/-- Whether packet k conforms. -/
def bok (n t R : Int) (xs : List It) (k : Nat) : Bool := match xs[k]? with
  | none => false
  | some x => decide (x.l * t ≤ pas n t R (bst n t R xs k).1 (bst n t R xs k).2 x.a)
/-- When all that conformed would have been sent (times n), ahead of packet k. -/
def due (n t R : Int) (xs : List It) : Nat → Int
  | 0 => 0
  | k + 1 => match xs[k]? with
    | none => due n t R xs k
    | some x => if x.a * n + R * t < (if due n t R xs k ≤ x.a * n then x.a * n else due n t R xs k) + x.l * t then due n t R xs k else (if due n t R xs k ≤ x.a * n then x.a * n else due n t R xs k) + x.l * t
def cok (n t R : Int) (xs : List It) (k : Nat) : Bool := match xs[k]? with
  | none => false
  | some x => !decide (x.a * n + R * t < (if due n t R xs k ≤ x.a * n then x.a * n else due n t R xs k) + x.l * t)

/-- Packets that may be, in order. -/
def Fine (xs : List It) : Prop := ∀ (k : Nat) (x : It), xs[k]? = some x → (0 ≤ x.a ∧ x.a ≤ 1000000000 ∧ 1 ≤ x.l ∧ x.l ≤ 10000) ∧ ∀ y, xs[k + 1]? = some y → x.a ≤ y.a
theorem prod_bounds {n R a b : Int} (hn : 0 ≤ n) (hn1 : n ≤ a) (hR : 0 ≤ R) (hR1 : R ≤ b) : 0 ≤ R * n ∧ R * n ≤ b * a := by
  refine ⟨Int.mul_nonneg hR hn, Int.mul_le_mul hR1 hn1 hn (by omega)⟩

theorem bst_succ {n t R : Int} {xs : List It} {k : Nat} {x : It} (hx : xs[k]? = some x) : bst n t R xs (k + 1) = (if x.l * t ≤ pas n t R (bst n t R xs k).1 (bst n t R xs k).2 x.a then pas n t R (bst n t R xs k).1 (bst n t R xs k).2 x.a - x.l * t else pas n t R (bst n t R xs k).1 (bst n t R xs k).2 x.a, if x.a ≤ (bst n t R xs k).2 then (bst n t R xs k).2 else x.a) := by
  simp only [bst, hx]
theorem due_succ {n t R : Int} {xs : List It} {k : Nat} {x : It} (hx : xs[k]? = some x) : due n t R xs (k + 1) = if x.a * n + R * t < (if due n t R xs k ≤ x.a * n then x.a * n else due n t R xs k) + x.l * t then due n t R xs k else (if due n t R xs k ≤ x.a * n then x.a * n else due n t R xs k) + x.l * t := by
  simp only [due, hx]

/-- The latest time ahead of packet k: 0, or the one's ahead. -/
theorem bst_lat {n t R : Int} {xs : List It} (hF : Fine xs) : ∀ k, k ≤ xs.length → (0 ≤ (bst n t R xs k).2 ∧ (bst n t R xs k).2 ≤ 1000000000) ∧ ∀ x, xs[k]? = some x → (bst n t R xs k).2 ≤ x.a := by
  intro k
  induction k with
  | zero => intro _; refine ⟨by simp [bst], fun x hx => ?_⟩; have := (hF 0 x hx).1; simp [bst]; omega
  | succ k ih =>
    intro hk
    obtain ⟨x, hx⟩ : ∃ x, xs[k]? = some x := ⟨_, List.getElem?_eq_getElem (by omega)⟩
    obtain ⟨hi, hle⟩ := ih (by omega)
    have h1 := hle x hx
    have h2 := hF k x hx
    rw [bst_succ hx]
    refine ⟨?_, fun y hy => ?_⟩
    · simp only; split <;> omega
    · have := h2.2 y hy
      simp only; split <;> omega

theorem pas_eq {n t R lev lat now : Int} (h : lat ≤ now) (hl : lev ≤ R * t) : pas n t R lev lat now = min (lev + (now * n - lat * n)) (R * t) := by
  unfold pas
  split
  · obtain rfl : now = lat := by omega
    omega
  · rw [Int.sub_mul]; split <;> omega
theorem bst_lev {n t R : Int} {xs : List It} (hF : Fine xs) (hn : 1 ≤ n) (ht : 1 ≤ t) (hR : 0 ≤ R) : ∀ k, k ≤ xs.length → 0 ≤ (bst n t R xs k).1 ∧ (bst n t R xs k).1 ≤ R * t := by
  intro k
  induction k with
  | zero => intro _; simp [bst]; exact Int.mul_nonneg hR (by omega)
  | succ k ih =>
    intro hk
    obtain ⟨x, hx⟩ : ∃ x, xs[k]? = some x := ⟨_, List.getElem?_eq_getElem (by omega)⟩
    obtain ⟨h0, h1⟩ := ih (by omega)
    have h2 := (hF k x hx).1
    have h3 := (bst_lat (n := n) (t := t) (R := R) hF k (by omega)).2 x hx
    rw [bst_succ hx]
    have h4 : 0 ≤ x.l * t := Int.mul_nonneg (by omega) (by omega)
    have h5 : (bst n t R xs k).2 * n ≤ x.a * n := Int.mul_le_mul_of_nonneg_right h3 (by omega)
    have h6 : 0 ≤ R * t := Int.mul_nonneg hR (by omega)
    have h7 := pas_eq (n := n) h3 h1
    generalize pas n t R (bst n t R xs k).1 (bst n t R xs k).2 x.a = v at *
    simp only
    split <;> omega
/-- What is in it when packet k comes. -/
theorem pas_bounds {n t R : Int} {xs : List It} (hF : Fine xs) (hn : 1 ≤ n) (ht : 1 ≤ t) (hR : 0 ≤ R) {k : Nat} {x : It} (hx : xs[k]? = some x) : 0 ≤ pas n t R (bst n t R xs k).1 (bst n t R xs k).2 x.a ∧ pas n t R (bst n t R xs k).1 (bst n t R xs k).2 x.a ≤ R * t := by
  have hk : k < xs.length := (List.getElem?_eq_some_iff.1 hx).1
  obtain ⟨h0, h1⟩ := bst_lev hF hn ht hR k (by omega)
  have h3 := (bst_lat (n := n) (t := t) (R := R) hF k (by omega)).2 x hx
  have h5 : (bst n t R xs k).2 * n ≤ x.a * n := Int.mul_le_mul_of_nonneg_right h3 (by omega)
  have h6 : 0 ≤ R * t := Int.mul_nonneg hR (by omega)
  rw [pas_eq (n := n) h3 h1]
  omega

/-- Two ways to say who conforms. -/
theorem bst_due {n t R : Int} {xs : List It} (hF : Fine xs) (hn : 1 ≤ n) (ht : 1 ≤ t) (hR : 0 ≤ R) : ∀ k, k ≤ xs.length → (bst n t R xs k).1 = R * t - max 0 (due n t R xs k - (bst n t R xs k).2 * n) := by
  intro k
  induction k with
  | zero => intro _; simp [bst, due]
  | succ k ih =>
    intro hk
    obtain ⟨x, hx⟩ : ∃ x, xs[k]? = some x := ⟨_, List.getElem?_eq_getElem (by omega)⟩
    have h1 := ih (by omega)
    have h2 := (hF k x hx).1
    have h3 := (bst_lat (n := n) (t := t) (R := R) hF k (by omega)).2 x hx
    rw [bst_succ hx, due_succ hx]
    have h4 : 0 ≤ x.l * t := Int.mul_nonneg (by omega) (by omega)
    have h5 : (bst n t R xs k).2 * n ≤ x.a * n := Int.mul_le_mul_of_nonneg_right h3 (by omega)
    have h6 : 0 ≤ R * t := Int.mul_nonneg hR (by omega)
    have h8 : (if x.a ≤ (bst n t R xs k).2 then (bst n t R xs k).2 else x.a) = x.a := by split <;> omega
    have h7 := pas_eq (n := n) h3 (bst_lev hF hn ht hR k (by omega)).2
    rw [h8]
    generalize pas n t R (bst n t R xs k).1 (bst n t R xs k).2 x.a = v at *
    generalize x.a * n = p at *
    generalize (bst n t R xs k).2 * n = p2 at *
    generalize x.l * t = q at *
    generalize R * t = r at *
    simp only
    repeat' split
    all_goals omega
theorem bok_cok {n t R : Int} {xs : List It} (hF : Fine xs) (hn : 1 ≤ n) (ht : 1 ≤ t) (hR : 0 ≤ R) (k : Nat) (hk : k < xs.length) : bok n t R xs k = cok n t R xs k := by
  obtain ⟨x, hx⟩ : ∃ x, xs[k]? = some x := ⟨_, List.getElem?_eq_getElem hk⟩
  have h1 := bst_due hF hn ht hR k (by omega)
  have h2 := (hF k x hx).1
  have h3 := (bst_lat (n := n) (t := t) (R := R) hF k (by omega)).2 x hx
  simp only [bok, cok, hx]
  have h4 : 0 ≤ x.l * t := Int.mul_nonneg (by omega) (by omega)
  have h5 : (bst n t R xs k).2 * n ≤ x.a * n := Int.mul_le_mul_of_nonneg_right h3 (by omega)
  have h7 := pas_eq (n := n) h3 (bst_lev hF hn ht hR k (by omega)).2
  generalize pas n t R (bst n t R xs k).1 (bst n t R xs k).2 x.a = v at *
  generalize x.a * n = p at *
  generalize (bst n t R xs k).2 * n = p2 at *
  generalize x.l * t = q at *
  generalize R * t = r at *
  rw [← decide_not]
  apply decide_eq_decide.2
  repeat' split
  all_goals omega
theorem due_bounds {n t R : Int} {xs : List It} (hF : Fine xs) (hn : 1 ≤ n) (ht : 1 ≤ t) (hR : 0 ≤ R) : ∀ k, k ≤ xs.length → 0 ≤ due n t R xs k ∧ due n t R xs k ≤ 1000000000 * n + R * t := by
  intro k
  induction k with
  | zero => intro _; simp [due]; have := Int.mul_nonneg hR (by omega : 0 ≤ t); omega
  | succ k ih =>
    intro hk
    obtain ⟨x, hx⟩ : ∃ x, xs[k]? = some x := ⟨_, List.getElem?_eq_getElem (by omega)⟩
    have h1 := ih (by omega)
    have h2 := (hF k x hx).1
    rw [due_succ hx]
    have h4 : 0 ≤ x.l * t := Int.mul_nonneg (by omega) (by omega)
    have h5 : 0 ≤ x.a * n := Int.mul_nonneg (by omega) (by omega)
    have h6 : x.a * n ≤ 1000000000 * n := Int.mul_le_mul_of_nonneg_right (by omega) (by omega)
    generalize x.a * n = p at *
    generalize x.l * t = q at *
    generalize R * t = r at *
    repeat' split
    all_goals omega

/-! bounds -/
/-- The bytes of packets i, .., k - 1. -/
def sumLB (L : List It) (i : Nat) : Nat → Int
  | 0 => 0
  | k + 1 => if k < i then 0 else sumLB L i k + match L[k]? with | none => 0 | some x => x.l
theorem sumLB_self (L : List It) (i : Nat) : sumLB L i i = 0 := by
  cases i with
  | zero => rfl
  | succ i => simp [sumLB]
theorem sumLB_succ {L : List It} {i k : Nat} {x : It} (hx : L[k]? = some x) (h : i ≤ k) : sumLB L i (k + 1) = sumLB L i k + x.l := by
  simp only [sumLB, hx]; rw [if_neg (by omega)]
theorem sumLB_append {L : List It} {M : List It} {i : Nat} : ∀ k, k ≤ L.length → sumLB (L ++ M) i k = sumLB L i k := by
  intro k
  induction k with
  | zero => intro _; rfl
  | succ k ih =>
    intro hk
    simp only [sumLB]
    rw [ih (by omega), List.getElem?_append_left (by omega)]
/-- In any row of these packets no more bytes than the room and what is filled meanwhile. -/
def Bnd (n t R : Int) (L : List It) : Prop := ∀ (i k : Nat) (x y : It), i ≤ k → L[i]? = some x → L[k]? = some y → sumLB L i (k + 1) * t ≤ R * t + (y.a - x.a) * n
/-- The packets that conformed, of the first k. -/
def kept (n t R : Int) (xs : List It) : Nat → List It
  | 0 => []
  | k + 1 => match xs[k]? with
    | none => kept n t R xs k
    | some x => if bok n t R xs k then kept n t R xs k ++ [x] else kept n t R xs k
theorem kept_succ {n t R : Int} {xs : List It} {k : Nat} {x : It} (hx : xs[k]? = some x) : kept n t R xs (k + 1) = if bok n t R xs k then kept n t R xs k ++ [x] else kept n t R xs k := by simp only [kept, hx]
theorem bok_at {n t R : Int} {xs : List It} {k : Nat} {x : It} (hx : xs[k]? = some x) : bok n t R xs k = decide (x.l * t ≤ pas n t R (bst n t R xs k).1 (bst n t R xs k).2 x.a) := by simp only [bok, hx]
theorem kept_le (n t R : Int) (xs : List It) : ∀ k, (kept n t R xs k).length ≤ k := by
  intro k
  induction k with
  | zero => simp [kept]
  | succ k ih =>
    simp only [kept]
    split
    · omega
    · split
      · simp; omega
      · omega
theorem kept_mem {n t R : Int} {xs : List It} : ∀ k x, x ∈ kept n t R xs k → x ∈ xs := by
  intro k
  induction k with
  | zero => intro x h; simp [kept] at h
  | succ k ih =>
    intro x h
    simp only [kept] at h
    split at h
    · exact ih x h
    · rename_i y hy
      split at h
      · rcases List.mem_append.1 h with h | h
        · exact ih x h
        · simp at h; subst h; exact List.mem_of_getElem? hy
      · exact ih x h
/-- What a level is worth: no row of those that conformed would be broken by as many more. -/
theorem lev_iff {n t R : Int} {xs : List It} (hF : Fine xs) (hn : 1 ≤ n) (ht : 1 ≤ t) (hR : 0 ≤ R) : ∀ k, k ≤ xs.length → ∀ z, z ≤ (bst n t R xs k).1 ↔ z ≤ R * t ∧ ∀ (i : Nat) (x : It), (kept n t R xs k)[i]? = some x → sumLB (kept n t R xs k) i (kept n t R xs k).length * t + z ≤ R * t + ((bst n t R xs k).2 - x.a) * n := by
  intro k
  induction k with
  | zero => intro _ z; simp [bst, kept]
  | succ k ih =>
    intro hk z
    obtain ⟨x, hx⟩ : ∃ x, xs[k]? = some x := ⟨_, List.getElem?_eq_getElem (by omega)⟩
    have h1 := ih (by omega)
    have h2 := (hF k x hx).1
    have h3 := (bst_lat (n := n) (t := t) (R := R) hF k (by omega)).2 x hx
    rw [bst_succ hx, kept_succ hx, bok_at hx]
    have h4 : 0 ≤ x.l * t := Int.mul_nonneg (by omega) (by omega)
    have h5 : (bst n t R xs k).2 * n ≤ x.a * n := Int.mul_le_mul_of_nonneg_right h3 (by omega)
    have h6 : 0 ≤ R * t := Int.mul_nonneg hR (by omega)
    have h8 : (if x.a ≤ (bst n t R xs k).2 then (bst n t R xs k).2 else x.a) = x.a := by split <;> omega
    have h7 := pas_eq (n := n) h3 (bst_lev hF hn ht hR k (by omega)).2
    have key : ∀ z, z ≤ pas n t R (bst n t R xs k).1 (bst n t R xs k).2 x.a ↔ z ≤ R * t ∧ ∀ (i : Nat) (y : It), (kept n t R xs k)[i]? = some y → sumLB (kept n t R xs k) i (kept n t R xs k).length * t + z ≤ R * t + (x.a - y.a) * n := by
      intro z
      rw [h7]
      constructor
      · intro hz
        refine ⟨by omega, fun i y hy => ?_⟩
        have := ((h1 (z - (x.a * n - (bst n t R xs k).2 * n))).1 (by omega)).2 i y hy
        rw [Int.sub_mul] at this ⊢
        omega
      · rintro ⟨hz, ha⟩
        have := (h1 (z - (x.a * n - (bst n t R xs k).2 * n))).2 ⟨by omega, fun i y hy => by
          have := ha i y hy
          rw [Int.sub_mul] at this ⊢
          omega⟩
        omega
    rw [h8]
    by_cases hc : x.l * t ≤ pas n t R (bst n t R xs k).1 (bst n t R xs k).2 x.a
    · simp only [hc, if_true, decide_true]
      rw [show (z ≤ pas n t R (bst n t R xs k).1 (bst n t R xs k).2 x.a - x.l * t) ↔ (z + x.l * t ≤ pas n t R (bst n t R xs k).1 (bst n t R xs k).2 x.a) by omega, key]
      have hlen : (kept n t R xs k ++ [x]).length = (kept n t R xs k).length + 1 := by simp
      have hsum : ∀ i, i ≤ (kept n t R xs k).length → sumLB (kept n t R xs k ++ [x]) i ((kept n t R xs k).length + 1) = sumLB (kept n t R xs k) i (kept n t R xs k).length + x.l := by
        intro i hi
        rw [sumLB_succ (x := x) (by simp) hi, sumLB_append _ (Nat.le_refl _)]
      constructor
      · rintro ⟨hz, ha⟩
        refine ⟨by omega, fun i y hy => ?_⟩
        rw [hlen]
        have hi : i < (kept n t R xs k).length + 1 := by have := (List.getElem?_eq_some_iff.1 hy).1; simpa using this
        rw [hsum i (by omega), Int.add_mul]
        by_cases hil : i = (kept n t R xs k).length
        · subst hil
          simp at hy; subst hy
          rw [sumLB_self]
          simp; omega
        · rw [List.getElem?_append_left (by omega)] at hy
          have := ha i y hy
          omega
      · rintro ⟨hz, ha⟩
        constructor
        · have := ha (kept n t R xs k).length x (by simp)
          rw [hlen, hsum _ (Nat.le_refl _), sumLB_self] at this
          simp at this; omega
        · intro i y hy
          have hi := (List.getElem?_eq_some_iff.1 hy).1
          have := ha i y (by rw [List.getElem?_append_left hi]; exact hy)
          rw [hlen, hsum i (by omega), Int.add_mul] at this
          omega
    · simp only [hc, if_false, decide_false, Bool.false_eq_true]
      exact key z
/-- With a packet behind: bounded still, just if it conforms. -/
theorem bnd_iff {n t R : Int} {xs : List It} (hF : Fine xs) (hn : 1 ≤ n) (ht : 1 ≤ t) (hR : 0 ≤ R) {k : Nat} {x : It} (hx : xs[k]? = some x) (hB : Bnd n t R (kept n t R xs k)) : Bnd n t R (kept n t R xs k ++ [x]) ↔ bok n t R xs k = true := by
  have hk : k < xs.length := (List.getElem?_eq_some_iff.1 hx).1
  have h1 := lev_iff hF hn ht hR k (by omega)
  have h2 := (hF k x hx).1
  have h3 := (bst_lat (n := n) (t := t) (R := R) hF k (by omega)).2 x hx
  have h5 : (bst n t R xs k).2 * n ≤ x.a * n := Int.mul_le_mul_of_nonneg_right h3 (by omega)
  have h7 := pas_eq (n := n) h3 (bst_lev hF hn ht hR k (by omega)).2
  have hsum : ∀ i, i ≤ (kept n t R xs k).length → sumLB (kept n t R xs k ++ [x]) i ((kept n t R xs k).length + 1) = sumLB (kept n t R xs k) i (kept n t R xs k).length + x.l := by
    intro i hi
    rw [sumLB_succ (x := x) (by simp) hi, sumLB_append _ (Nat.le_refl _)]
  rw [bok_at hx, decide_eq_true_iff, h7]
  constructor
  · intro hb
    have hl := hb (kept n t R xs k).length (kept n t R xs k).length x x (Nat.le_refl _) (by simp) (by simp)
    rw [hsum _ (Nat.le_refl _), sumLB_self] at hl
    have := (h1 (x.l * t - (x.a * n - (bst n t R xs k).2 * n))).2 ⟨by simp at hl; omega, fun i y hy => by
      have hi := (List.getElem?_eq_some_iff.1 hy).1
      have := hb i (kept n t R xs k).length y x (by omega) (by rw [List.getElem?_append_left hi]; exact hy) (by simp)
      rw [hsum i (by omega), Int.add_mul, Int.sub_mul] at this
      rw [Int.sub_mul]
      omega⟩
    simp at hl
    omega
  · intro hc i m y z him hy hz
    have hm : m < (kept n t R xs k).length + 1 := by have := (List.getElem?_eq_some_iff.1 hz).1; simpa using this
    by_cases hml : m = (kept n t R xs k).length
    · subst hml
      simp at hz; subst hz
      rw [hsum i him, Int.add_mul]
      by_cases hil : i = (kept n t R xs k).length
      · subst hil
        simp at hy; subst hy
        rw [sumLB_self]
        simp; omega
      · rw [List.getElem?_append_left (by omega)] at hy
        have := ((h1 (x.l * t - (x.a * n - (bst n t R xs k).2 * n))).1 (by omega)).2 i y hy
        rw [Int.sub_mul] at this ⊢
        omega
    · rw [List.getElem?_append_left (by omega)] at hy hz
      rw [sumLB_append (m + 1) (by omega)]
      exact hB i m y z him hy hz
theorem bnd_kept {n t R : Int} {xs : List It} (hF : Fine xs) (hn : 1 ≤ n) (ht : 1 ≤ t) (hR : 0 ≤ R) : ∀ k, k ≤ xs.length → Bnd n t R (kept n t R xs k) := by
  intro k
  induction k with
  | zero => intro _ i m x y _ hx; simp [kept] at hx
  | succ k ih =>
    intro hk
    obtain ⟨x, hx⟩ : ∃ x, xs[k]? = some x := ⟨_, List.getElem?_eq_getElem (by omega)⟩
    have hB := ih (by omega)
    rw [kept_succ hx]
    split
    · rename_i hb; exact (bnd_iff hF hn ht hR hx hB).2 hb
    · exact hB

/-! colors -/
/-- What finds no room. -/
def ovr (n t R lev lat now : Int) : Int := if now ≤ lat then 0 else if lev + (now - lat) * n ≤ R * t then 0 else lev + (now - lat) * n - R * t
/-- What is in the second room when so much more comes. -/
def pou (t E lev more : Int) : Int := if lev + more ≤ E * t then lev + more else E * t
/-- What is in the second room ahead of packet k. -/
def est (n t R E : Int) (xs : List It) : Nat → Int
  | 0 => E * t
  | k + 1 => match xs[k]? with
    | none => est n t R E xs k
    | some x => if bok n t R xs k then pou t E (est n t R E xs k) (ovr n t R (bst n t R xs k).1 (bst n t R xs k).2 x.a) else if x.l * t ≤ pou t E (est n t R E xs k) (ovr n t R (bst n t R xs k).1 (bst n t R xs k).2 x.a) then pou t E (est n t R E xs k) (ovr n t R (bst n t R xs k).1 (bst n t R xs k).2 x.a) - x.l * t else pou t E (est n t R E xs k) (ovr n t R (bst n t R xs k).1 (bst n t R xs k).2 x.a)
/-- The color of packet k. -/
def col (n t R E : Int) (xs : List It) (k : Nat) : Int := match xs[k]? with
  | none => 0
  | some x => if bok n t R xs k then 1 else if x.l * t ≤ pou t E (est n t R E xs k) (ovr n t R (bst n t R xs k).1 (bst n t R xs k).2 x.a) then 2 else 3
theorem est_succ {n t R E : Int} {xs : List It} {k : Nat} {x : It} (hx : xs[k]? = some x) : est n t R E xs (k + 1) = if bok n t R xs k then pou t E (est n t R E xs k) (ovr n t R (bst n t R xs k).1 (bst n t R xs k).2 x.a) else if x.l * t ≤ pou t E (est n t R E xs k) (ovr n t R (bst n t R xs k).1 (bst n t R xs k).2 x.a) then pou t E (est n t R E xs k) (ovr n t R (bst n t R xs k).1 (bst n t R xs k).2 x.a) - x.l * t else pou t E (est n t R E xs k) (ovr n t R (bst n t R xs k).1 (bst n t R xs k).2 x.a) := by simp only [est, hx]
theorem col_at {n t R E : Int} {xs : List It} {k : Nat} {x : It} (hx : xs[k]? = some x) : col n t R E xs k = if bok n t R xs k then 1 else if x.l * t ≤ pou t E (est n t R E xs k) (ovr n t R (bst n t R xs k).1 (bst n t R xs k).2 x.a) then 2 else 3 := by simp only [col, hx]
theorem ovr_bounds {n t R lev lat now : Int} : 0 ≤ ovr n t R lev lat now := by
  unfold ovr
  split
  · omega
  · split <;> omega
theorem est_bounds {n t R E : Int} {xs : List It} (hF : Fine xs) (ht : 1 ≤ t) (hE : 0 ≤ E) : ∀ k, k ≤ xs.length → 0 ≤ est n t R E xs k ∧ est n t R E xs k ≤ E * t := by
  intro k
  induction k with
  | zero => intro _; simp [est]; exact Int.mul_nonneg hE (by omega)
  | succ k ih =>
    intro hk
    obtain ⟨x, hx⟩ : ∃ x, xs[k]? = some x := ⟨_, List.getElem?_eq_getElem (by omega)⟩
    have h1 := ih (by omega)
    have h2 := (hF k x hx).1
    have h4 : 0 ≤ x.l * t := Int.mul_nonneg (by omega) (by omega)
    have h5 := ovr_bounds (n := n) (t := t) (R := R) (lev := (bst n t R xs k).1) (lat := (bst n t R xs k).2) (now := x.a)
    rw [est_succ hx]
    generalize ovr n t R (bst n t R xs k).1 (bst n t R xs k).2 x.a = o at *
    have h6 : pou t E (est n t R E xs k) o = min (est n t R E xs k + o) (E * t) := by unfold pou; split <;> omega
    generalize pou t E (est n t R E xs k) o = p at *
    repeat' split
    all_goals omega
theorem col_green {n t R E : Int} {xs : List It} {k : Nat} (hk : k < xs.length) : (col n t R E xs k = 1) ↔ bok n t R xs k = true := by
  obtain ⟨x, hx⟩ : ∃ x, xs[k]? = some x := ⟨_, List.getElem?_eq_getElem hk⟩
  rw [col_at hx]
  split
  · simp [*]
  · split <;> simp [*]
theorem col_none {n t R : Int} {xs : List It} (hF : Fine xs) (ht : 1 ≤ t) {k : Nat} (hk : k < xs.length) : col n t R 0 xs k ≠ 2 := by
  obtain ⟨x, hx⟩ : ∃ x, xs[k]? = some x := ⟨_, List.getElem?_eq_getElem hk⟩
  have h1 := est_bounds (n := n) (R := R) hF ht (Int.le_refl 0) k (by omega)
  have h2 := (hF k x hx).1
  have h4 : 0 < x.l * t := Int.mul_pos (by omega) (by omega)
  have h5 := ovr_bounds (n := n) (t := t) (R := R) (lev := (bst n t R xs k).1) (lat := (bst n t R xs k).2) (now := x.a)
  rw [col_at hx]
  generalize ovr n t R (bst n t R xs k).1 (bst n t R xs k).2 x.a = o at *
  have h6 : pou t 0 (est n t R 0 xs k) o = min (est n t R 0 xs k + o) (0 * t) := by unfold pou; split <;> omega
  generalize pou t 0 (est n t R 0 xs k) o = p at *
  split
  · decide
  · rw [if_neg (by omega)]; decide

/-! two buckets -/
/-- What is in the first one, and its latest time, ahead of packet k: it is asked for what the second one (n2, t2, R2) has. -/
def tst (n t R n2 t2 R2 : Int) (xs : List It) : Nat → Int × Int
  | 0 => (R * t, 0)
  | k + 1 => match xs[k]? with
    | none => tst n t R n2 t2 R2 xs k
    | some x => if bok n2 t2 R2 xs k then (if x.l * t ≤ pas n t R (tst n t R n2 t2 R2 xs k).1 (tst n t R n2 t2 R2 xs k).2 x.a then pas n t R (tst n t R n2 t2 R2 xs k).1 (tst n t R n2 t2 R2 xs k).2 x.a - x.l * t else pas n t R (tst n t R n2 t2 R2 xs k).1 (tst n t R n2 t2 R2 xs k).2 x.a, if x.a ≤ (tst n t R n2 t2 R2 xs k).2 then (tst n t R n2 t2 R2 xs k).2 else x.a) else tst n t R n2 t2 R2 xs k
def twc (n t R n2 t2 R2 : Int) (xs : List It) (k : Nat) : Int := match xs[k]? with
  | none => 0
  | some x => if bok n2 t2 R2 xs k then (if x.l * t ≤ pas n t R (tst n t R n2 t2 R2 xs k).1 (tst n t R n2 t2 R2 xs k).2 x.a then 1 else 2) else 3
theorem tst_succ {n t R n2 t2 R2 : Int} {xs : List It} {k : Nat} {x : It} (hx : xs[k]? = some x) : tst n t R n2 t2 R2 xs (k + 1) = if bok n2 t2 R2 xs k then (if x.l * t ≤ pas n t R (tst n t R n2 t2 R2 xs k).1 (tst n t R n2 t2 R2 xs k).2 x.a then pas n t R (tst n t R n2 t2 R2 xs k).1 (tst n t R n2 t2 R2 xs k).2 x.a - x.l * t else pas n t R (tst n t R n2 t2 R2 xs k).1 (tst n t R n2 t2 R2 xs k).2 x.a, if x.a ≤ (tst n t R n2 t2 R2 xs k).2 then (tst n t R n2 t2 R2 xs k).2 else x.a) else tst n t R n2 t2 R2 xs k := by simp only [tst, hx]
theorem twc_at {n t R n2 t2 R2 : Int} {xs : List It} {k : Nat} {x : It} (hx : xs[k]? = some x) : twc n t R n2 t2 R2 xs k = if bok n2 t2 R2 xs k then (if x.l * t ≤ pas n t R (tst n t R n2 t2 R2 xs k).1 (tst n t R n2 t2 R2 xs k).2 x.a then 1 else 2) else 3 := by simp only [twc, hx]
theorem twc_red {n t R n2 t2 R2 : Int} {xs : List It} {k : Nat} (hk : k < xs.length) : (twc n t R n2 t2 R2 xs k ≠ 3) ↔ bok n2 t2 R2 xs k = true := by
  obtain ⟨x, hx⟩ : ∃ x, xs[k]? = some x := ⟨_, List.getElem?_eq_getElem hk⟩
  rw [twc_at hx]
  split
  · split <;> simp [*]
  · simp [*]
theorem tst_lat {n t R n2 t2 R2 : Int} {xs : List It} (hF : Fine xs) : ∀ k, k ≤ xs.length → 0 ≤ (tst n t R n2 t2 R2 xs k).2 ∧ (tst n t R n2 t2 R2 xs k).2 ≤ (bst n2 t2 R2 xs k).2 := by
  intro k
  induction k with
  | zero => intro _; simp [tst, bst]
  | succ k ih =>
    intro hk
    obtain ⟨x, hx⟩ : ∃ x, xs[k]? = some x := ⟨_, List.getElem?_eq_getElem (by omega)⟩
    have h1 := ih (by omega)
    have h2 := (hF k x hx).1
    have h3 := (bst_lat (n := n2) (t := t2) (R := R2) hF k (by omega)).2 x hx
    rw [tst_succ hx, bst_succ hx]
    simp only
    split
    · simp only; repeat' split
      all_goals omega
    · repeat' split
      all_goals omega
theorem tst_lev {n t R n2 t2 R2 : Int} {xs : List It} (hF : Fine xs) (hn : 1 ≤ n) (ht : 1 ≤ t) (hR : 0 ≤ R) : ∀ k, k ≤ xs.length → 0 ≤ (tst n t R n2 t2 R2 xs k).1 ∧ (tst n t R n2 t2 R2 xs k).1 ≤ R * t := by
  intro k
  induction k with
  | zero => intro _; simp [tst]; exact Int.mul_nonneg hR (by omega)
  | succ k ih =>
    intro hk
    obtain ⟨x, hx⟩ : ∃ x, xs[k]? = some x := ⟨_, List.getElem?_eq_getElem (by omega)⟩
    obtain ⟨h0, h1⟩ := ih (by omega)
    have h2 := (hF k x hx).1
    have h3 := (bst_lat (n := n2) (t := t2) (R := R2) hF k (by omega)).2 x hx
    have h3' := (tst_lat (n := n) (t := t) (R := R) (n2 := n2) (t2 := t2) (R2 := R2) hF k (by omega)).2
    have h3'' : (tst n t R n2 t2 R2 xs k).2 ≤ x.a := by omega
    rw [tst_succ hx]
    have h4 : 0 ≤ x.l * t := Int.mul_nonneg (by omega) (by omega)
    have h5 : (tst n t R n2 t2 R2 xs k).2 * n ≤ x.a * n := Int.mul_le_mul_of_nonneg_right h3'' (by omega)
    have h6 : 0 ≤ R * t := Int.mul_nonneg hR (by omega)
    have h7 := pas_eq (n := n) h3'' h1
    generalize pas n t R (tst n t R n2 t2 R2 xs k).1 (tst n t R n2 t2 R2 xs k).2 x.a = v at *
    split
    · simp only
      split <;> omega
    · omega

/-! shaping -/
def lat1 (lat a : Int) : Int := if a ≤ lat then lat else a
/-- The first time at which l bytes are in it. -/
def whn (n t lev lat l : Int) : Int := lat + ((if l * t - lev ≤ 0 then 0 else l * t - lev) + n - 1) / n
/-- Level and latest time ahead of packet k, where each goes as soon as may be. -/
def sst (n t R : Int) (xs : List It) : Nat → Int × Int
  | 0 => (R * t, 0)
  | k + 1 => match xs[k]? with
    | none => sst n t R xs k
    | some x => (pas n t R (pas n t R (sst n t R xs k).1 (sst n t R xs k).2 x.a) (lat1 (sst n t R xs k).2 x.a) (whn n t (pas n t R (sst n t R xs k).1 (sst n t R xs k).2 x.a) (lat1 (sst n t R xs k).2 x.a) x.l) - x.l * t, whn n t (pas n t R (sst n t R xs k).1 (sst n t R xs k).2 x.a) (lat1 (sst n t R xs k).2 x.a) x.l)
/-- When packet k goes. -/
def goes (n t R : Int) (xs : List It) (k : Nat) : Int := match xs[k]? with
  | none => 0
  | some x => whn n t (pas n t R (sst n t R xs k).1 (sst n t R xs k).2 x.a) (lat1 (sst n t R xs k).2 x.a) x.l
theorem sst_succ {n t R : Int} {xs : List It} {k : Nat} {x : It} (hx : xs[k]? = some x) : sst n t R xs (k + 1) = (pas n t R (pas n t R (sst n t R xs k).1 (sst n t R xs k).2 x.a) (lat1 (sst n t R xs k).2 x.a) (whn n t (pas n t R (sst n t R xs k).1 (sst n t R xs k).2 x.a) (lat1 (sst n t R xs k).2 x.a) x.l) - x.l * t, whn n t (pas n t R (sst n t R xs k).1 (sst n t R xs k).2 x.a) (lat1 (sst n t R xs k).2 x.a) x.l) := by simp only [sst, hx]
theorem goes_at {n t R : Int} {xs : List It} {k : Nat} {x : It} (hx : xs[k]? = some x) : goes n t R xs k = whn n t (pas n t R (sst n t R xs k).1 (sst n t R xs k).2 x.a) (lat1 (sst n t R xs k).2 x.a) x.l := by simp only [goes, hx]
theorem sst_two {n t R : Int} {xs : List It} {k : Nat} {x : It} (hx : xs[k]? = some x) : (sst n t R xs (k + 1)).2 = goes n t R xs k := by rw [sst_succ hx, goes_at hx]
theorem whn_bounds {n t lev lat l : Int} (hn : 1 ≤ n) : lat ≤ whn n t lev lat l ∧ l * t - lev ≤ (whn n t lev lat l - lat) * n ∧ (lat < whn n t lev lat l → (whn n t lev lat l - 1 - lat) * n < l * t - lev) := by
  unfold whn
  generalize hm : (if l * t - lev ≤ 0 then 0 else l * t - lev) = m
  have hm0 : 0 ≤ m := by split at hm <;> omega
  have hm1 : l * t - lev ≤ m := by split at hm <;> omega
  have h1 := Int.mul_ediv_add_emod (m + n - 1) n
  have h2 := Int.emod_nonneg (m + n - 1) (by omega : n ≠ 0)
  have h3 := Int.emod_lt_of_pos (m + n - 1) (by omega : 0 < n)
  have h4 : 0 ≤ (m + n - 1) / n := Int.ediv_nonneg (by omega) (by omega)
  generalize (m + n - 1) % n = r at *
  have h5 : (lat + (m + n - 1) / n - lat) * n = n * ((m + n - 1) / n) := by rw [Int.mul_comm]; congr 1; omega
  have h6 : (lat + (m + n - 1) / n - 1 - lat) * n = n * ((m + n - 1) / n) - n := by
    rw [Int.mul_comm, show lat + (m + n - 1) / n - 1 - lat = (m + n - 1) / n - 1 by omega, Int.mul_sub]; simp
  rw [h5, h6]
  refine ⟨by omega, by omega, fun hlt => ?_⟩
  have hq : 1 ≤ (m + n - 1) / n := by omega
  have h7 : n * 1 ≤ n * ((m + n - 1) / n) := Int.mul_le_mul_of_nonneg_left hq (by omega)
  have hm2 : 1 ≤ m := by omega
  have : m = l * t - lev := by split at hm <;> omega
  omega
/-- What may not go: none of the first k. -/
def Goes (n t R : Int) (xs : List It) (k : Nat) : Prop := ∀ (j : Nat) (x : It), j < k → xs[j]? = some x → x.l ≤ R ∧ goes n t R xs j ≤ 1000000000
theorem sst_inv {n t R : Int} {xs : List It} (hF : Fine xs) (hn : 1 ≤ n) (ht : 1 ≤ t) (hR : 0 ≤ R) : ∀ k, k ≤ xs.length → Goes n t R xs k → (0 ≤ (sst n t R xs k).1 ∧ (sst n t R xs k).1 ≤ R * t) ∧ 0 ≤ (sst n t R xs k).2 ∧ (sst n t R xs k).2 ≤ 1000000000 := by
  intro k
  induction k with
  | zero => intro _ _; simp [sst]; exact Int.mul_nonneg hR (by omega)
  | succ k ih =>
    intro hk hG
    obtain ⟨x, hx⟩ : ∃ x, xs[k]? = some x := ⟨_, List.getElem?_eq_getElem (by omega)⟩
    obtain ⟨⟨h0, h1⟩, hl0, hl1⟩ := ih (by omega) (fun j y hj hy => hG j y (by omega) hy)
    have h2 := (hF k x hx).1
    obtain ⟨g1, g2⟩ := hG k x (by omega) hx
    rw [goes_at hx] at g2
    rw [sst_succ hx]
    simp only
    have h6 : 0 ≤ R * t := Int.mul_nonneg hR (by omega)
    have hp : 0 ≤ pas n t R (sst n t R xs k).1 (sst n t R xs k).2 x.a ∧ pas n t R (sst n t R xs k).1 (sst n t R xs k).2 x.a ≤ R * t := by
      by_cases hc : x.a ≤ (sst n t R xs k).2
      · rw [pas, if_pos hc]; exact ⟨h0, h1⟩
      · rw [pas_eq (by omega) h1]
        have h5 : (sst n t R xs k).2 * n ≤ x.a * n := Int.mul_le_mul_of_nonneg_right (by omega) (by omega)
        omega
    generalize pas n t R (sst n t R xs k).1 (sst n t R xs k).2 x.a = v at *
    have hla : 0 ≤ lat1 (sst n t R xs k).2 x.a := by unfold lat1; split <;> omega
    generalize lat1 (sst n t R xs k).2 x.a = la at *
    obtain ⟨w1, w2, _⟩ := whn_bounds (n := n) (t := t) (lev := v) (lat := la) (l := x.l) hn
    rw [pas_eq w1 hp.2]
    rw [Int.sub_mul] at w2
    have h8 : x.l * t ≤ R * t := Int.mul_le_mul_of_nonneg_right g1 (by omega)
    have h9 : 0 ≤ x.l * t := Int.mul_nonneg (by omega) (by omega)
    have h10 : la * n ≤ whn n t v la x.l * n := Int.mul_le_mul_of_nonneg_right w1 (by omega)
    omega
theorem pas_pas {n t R lev lat a b : Int} (hn : 1 ≤ n) (h : lat1 lat a ≤ b) (hl : lev ≤ R * t) : pas n t R (pas n t R lev lat a) (lat1 lat a) b = pas n t R lev lat b := by
  unfold lat1 at *
  by_cases hc : a ≤ lat
  · rw [if_pos hc] at *
    rw [show pas n t R lev lat a = lev by rw [pas, if_pos hc]]
  · rw [if_neg hc] at *
    have e1 := pas_eq (n := n) (lat := lat) (now := a) (by omega) hl
    have h5 : lat * n ≤ a * n := Int.mul_le_mul_of_nonneg_right (by omega) (by omega)
    have h6 : a * n ≤ b * n := Int.mul_le_mul_of_nonneg_right (by omega) (by omega)
    rw [pas_eq (lat := a) h (by omega), e1, pas_eq (lat := lat) (now := b) (by omega) hl]
    omega
/-- The same packets, the first m each at the time when it goes. -/
def mvd (n t R : Int) (xs : List It) (m : Nat) : List It := xs.mapIdx fun j x => if j < m then { x with a := goes n t R xs j } else x
theorem mvd_length (n t R : Int) (xs : List It) (m : Nat) : (mvd n t R xs m).length = xs.length := by simp [mvd]
theorem mvd_at {n t R : Int} {xs : List It} {m k : Nat} {x : It} (hx : xs[k]? = some x) : (mvd n t R xs m)[k]? = some (if k < m then { x with a := goes n t R xs k } else x) := by simp [mvd, hx]
theorem bst_congr {n t R : Int} {xs ys : List It} : ∀ k, (∀ j, j < k → xs[j]? = ys[j]?) → bst n t R xs k = bst n t R ys k := by
  intro k
  induction k with
  | zero => intro _; rfl
  | succ k ih =>
    intro h
    simp only [bst]
    rw [ih fun j hj => h j (by omega), h k (by omega)]
theorem goes_bounds {n t R : Int} {xs : List It} (_hF : Fine xs) (hn : 1 ≤ n) {k : Nat} {x : It} (hx : xs[k]? = some x) : x.a ≤ goes n t R xs k ∧ (sst n t R xs k).2 ≤ goes n t R xs k := by
  rw [goes_at hx]
  have := (whn_bounds (n := n) (t := t) (lev := pas n t R (sst n t R xs k).1 (sst n t R xs k).2 x.a) (lat := lat1 (sst n t R xs k).2 x.a) (l := x.l) hn).1
  have h2 : x.a ≤ lat1 (sst n t R xs k).2 x.a ∧ (sst n t R xs k).2 ≤ lat1 (sst n t R xs k).2 x.a := by unfold lat1; split <;> omega
  omega
/-- What is shaped goes through the bucket as it was shaped. -/
theorem bst_mvd {n t R : Int} {xs : List It} (hF : Fine xs) (hn : 1 ≤ n) (ht : 1 ≤ t) (hR : 0 ≤ R) : ∀ k, k ≤ xs.length → Goes n t R xs k → bst n t R (mvd n t R xs xs.length) k = sst n t R xs k := by
  intro k
  induction k with
  | zero => intro _ _; rfl
  | succ k ih =>
    intro hk hG
    obtain ⟨x, hx⟩ : ∃ x, xs[k]? = some x := ⟨_, List.getElem?_eq_getElem (by omega)⟩
    have hG' : Goes n t R xs k := fun j y hj hy => hG j y (by omega) hy
    obtain ⟨⟨h0, h1⟩, hl0, hl1⟩ := sst_inv hF hn ht hR k (by omega) hG'
    have hm := mvd_at (n := n) (t := t) (R := R) (m := xs.length) hx
    rw [if_pos (by omega)] at hm
    rw [bst_succ hm, ih (by omega) hG', sst_succ hx]
    obtain ⟨hb1, hb2⟩ := goes_bounds (n := n) (t := t) (R := R) hF hn hx
    have hla : lat1 (sst n t R xs k).2 x.a ≤ goes n t R xs k := by unfold lat1; split <;> omega
    have hpp := pas_pas (n := n) (t := t) (R := R) (lev := (sst n t R xs k).1) (lat := (sst n t R xs k).2) (a := x.a) (b := goes n t R xs k) hn hla h1
    have hs := (sst_inv hF hn ht hR (k + 1) hk hG).1.1
    rw [sst_succ hx] at hs
    rw [← goes_at hx] at hs ⊢
    simp only at hs ⊢
    rw [hpp] at hs ⊢
    rw [if_pos (by omega)]
    congr 1
    split <;> omega
theorem bok_mvd {n t R : Int} {xs : List It} (hF : Fine xs) (hn : 1 ≤ n) (ht : 1 ≤ t) (hR : 0 ≤ R) {k : Nat} (hk : k < xs.length) (hG : Goes n t R xs xs.length) : bok n t R (mvd n t R xs xs.length) k = true := by
  obtain ⟨x, hx⟩ : ∃ x, xs[k]? = some x := ⟨_, List.getElem?_eq_getElem hk⟩
  have hG' : Goes n t R xs k := fun j y hj hy => hG j y (by omega) hy
  obtain ⟨⟨h0, h1⟩, hl0, hl1⟩ := sst_inv hF hn ht hR k (by omega) hG'
  have hm := mvd_at (n := n) (t := t) (R := R) (m := xs.length) hx
  rw [if_pos (by omega)] at hm
  rw [bok_at hm, bst_mvd hF hn ht hR k (by omega) hG']
  obtain ⟨hb1, hb2⟩ := goes_bounds (n := n) (t := t) (R := R) hF hn hx
  have hla : lat1 (sst n t R xs k).2 x.a ≤ goes n t R xs k := by unfold lat1; split <;> omega
  have hpp := pas_pas (n := n) (t := t) (R := R) (lev := (sst n t R xs k).1) (lat := (sst n t R xs k).2) (a := x.a) (b := goes n t R xs k) hn hla h1
  have hs := (sst_inv hF hn ht hR (k + 1) (by omega) (fun j y hj hy => hG j y (by omega) hy)).1.1
  rw [sst_succ hx, ← goes_at hx] at hs
  simp only at hs ⊢
  rw [hpp] at hs
  simp; omega
/-- One tick sooner it would not conform. -/
theorem sooner {n t R : Int} {xs : List It} (hF : Fine xs) (hn : 1 ≤ n) (ht : 1 ≤ t) (hR : 0 ≤ R) {k : Nat} {x : It} (hx : xs[k]? = some x) (hG : Goes n t R xs xs.length) (ys : List It) (hys : ∀ j, j < k → ys[j]? = (mvd n t R xs xs.length)[j]?) (hyk : ys[k]? = some { x with a := goes n t R xs k - 1 }) (h1 : x.a < goes n t R xs k) (h2 : (sst n t R xs k).2 < goes n t R xs k) : bok n t R ys k = false := by
  have hk : k < xs.length := (List.getElem?_eq_some_iff.1 hx).1
  have hG' : Goes n t R xs k := fun j y hj hy => hG j y (by omega) hy
  obtain ⟨⟨h0, hc⟩, hl0, hl1⟩ := sst_inv hF hn ht hR k (by omega) hG'
  rw [bok_at hyk, bst_congr k hys, bst_mvd hF hn ht hR k (by omega) hG']
  simp only
  have hla : lat1 (sst n t R xs k).2 x.a ≤ goes n t R xs k - 1 := by unfold lat1; split <;> omega
  have hpp := pas_pas (n := n) (t := t) (R := R) (lev := (sst n t R xs k).1) (lat := (sst n t R xs k).2) (a := x.a) (b := goes n t R xs k - 1) hn hla hc
  rw [← hpp]
  have hp : pas n t R (sst n t R xs k).1 (sst n t R xs k).2 x.a ≤ R * t := by
    by_cases hc' : x.a ≤ (sst n t R xs k).2
    · rw [pas, if_pos hc']; exact hc
    · rw [pas_eq (by omega) hc]; omega
  rw [pas_eq hla hp]
  have hw := (whn_bounds (n := n) (t := t) (lev := pas n t R (sst n t R xs k).1 (sst n t R xs k).2 x.a) (lat := lat1 (sst n t R xs k).2 x.a) (l := x.l) hn).2.2
  rw [← goes_at hx] at hw
  have := hw (by omega)
  rw [Int.sub_mul] at this
  simp; omega
theorem sst_prev {n t R : Int} {xs : List It} {k : Nat} (hk : k + 1 < xs.length) : (sst n t R xs (k + 1)).2 = goes n t R xs k := by
  obtain ⟨x, hx⟩ : ∃ x, xs[k]? = some x := ⟨_, List.getElem?_eq_getElem (by omega)⟩
  exact sst_two hx
theorem fine_mvd {n t R : Int} {xs : List It} (hF : Fine xs) (hn : 1 ≤ n) (hG : Goes n t R xs xs.length) : Fine (mvd n t R xs xs.length) := by
  intro k y hy
  have hk : k < xs.length := by have := (List.getElem?_eq_some_iff.1 hy).1; rwa [mvd_length] at this
  obtain ⟨x, hx⟩ : ∃ x, xs[k]? = some x := ⟨_, List.getElem?_eq_getElem hk⟩
  rw [mvd_at hx, if_pos hk] at hy
  obtain rfl := Option.some.inj hy
  have h2 := (hF k x hx).1
  have hb := goes_bounds (n := n) (t := t) (R := R) hF hn hx
  have hg := hG k x hk hx
  refine ⟨⟨by simp only; omega, by simp only; omega, h2.2.2⟩, fun z hz => ?_⟩
  have hk1 : k + 1 < xs.length := by have := (List.getElem?_eq_some_iff.1 hz).1; rwa [mvd_length] at this
  obtain ⟨x1, hx1⟩ : ∃ x, xs[k + 1]? = some x := ⟨_, List.getElem?_eq_getElem hk1⟩
  rw [mvd_at hx1, if_pos hk1] at hz
  obtain rfl := Option.some.inj hz
  have hb1 := goes_bounds (n := n) (t := t) (R := R) hF hn hx1
  rw [sst_prev hk1] at hb1
  exact hb1.2
end Go.Proofs.YtfakjedolecdcaaGreatDoor
namespace Go.Proofs.YtfakjedolecdcaaGreatDoor
open Go.RowKit Go.Extern.Stop Go.Stop Go.Extern

/-- Of what was there all is as it was, but blocks of S. -/
structure Oth (S : Nat → Prop) (w w' : World) : Prop where
  os : w'.os = w.os
  tape : w'.tape = w.tape
  output : w'.output = w.output
  size : w.heap.size ≤ w'.heap.size
  block : ∀ k, k < w.heap.size → ¬ S k → w'.heap[k]? = w.heap[k]?
theorem Oth.refl (S : Nat → Prop) (w : World) : Oth S w w := ⟨rfl, rfl, rfl, Nat.le_refl _, fun _ _ _ => rfl⟩
theorem Oth.trans {S : Nat → Prop} {a b c : World} (h : Oth S a b) (k : Oth S b c) : Oth S a c :=
  ⟨k.os.trans h.os, k.tape.trans h.tape, k.output.trans h.output, Nat.le_trans h.size k.size, fun i hi hs => (k.block i (Nat.lt_of_lt_of_le hi h.size) hs).trans (h.block i hi hs)⟩
theorem Oth.alloc {S : Nat → Prop} {a w : World} (h : Oth S a w) (o : Obj) : Oth S a (w.alloc o) :=
  h.trans ⟨rfl, rfl, rfl, by simp, fun k hk _ => Below.heap_alloc _ _ _ hk⟩
theorem Oth.setCell {S : Nat → Prop} {a w : World} (h : Oth S a w) {p : Addr} (hp : S p.block) (u : Value) : Oth S a (w.setCell p u) :=
  h.trans ⟨rfl, rfl, rfl, by simp [World.setCell], fun k _ hs => Below.heap_setCell _ _ _ _ (fun e => hs (e ▸ hp))⟩
theorem Oth.drewN {S : Nat → Prop} {a w : World} (h : Oth S a w) (n : Nat) : Oth S a (w.drewN n) := h.trans ⟨rfl, rfl, rfl, Nat.le_refl _, fun _ _ _ => rfl⟩
theorem Oth.drew {S : Nat → Prop} {a w : World} (h : Oth S a w) : Oth S a w.drew := h.trans ⟨rfl, rfl, rfl, Nat.le_refl _, fun _ _ _ => rfl⟩
theorem Oth.of_below {S : Nat → Prop} {w w' : World} (h : Below w.heap.size w w') : Oth S w w' := ⟨h.os, h.tape, h.output, h.size, fun k hk _ => h.block k hk⟩
theorem Oth.below {S : Nat → Prop} {w w' : World} (h : Oth S w w') {B : Nat} (hB : B ≤ w.heap.size) (hS : ∀ k, S k → B ≤ k) : Below B w w' := ⟨h.os, h.tape, h.output, h.size, fun k hk => h.block k (by omega) (fun hs => by have := hS k hs; omega)⟩
theorem Oth.then_below {S : Nat → Prop} {w a b : World} (h : Oth S w a) (k : Below w.heap.size a b) : Oth S w b := ⟨k.os.trans h.os, k.tape.trans h.tape, k.output.trans h.output, Nat.le_trans h.size k.size, fun i hi hs => (k.block i hi).trans (h.block i hi hs)⟩
theorem Oth.mono {S T : Nat → Prop} {w w' : World} (h : Oth S w w') (hST : ∀ k, S k → T k) : Oth T w w' := ⟨h.os, h.tape, h.output, h.size, fun k hk hs => h.block k hk (fun x => hs (hST k x))⟩
theorem Oth.cell {S : Nat → Prop} {w w' : World} (h : Oth S w w') {p : Addr} (hp : p.block < w.heap.size) (hs : ¬ S p.block) : w'.cell? p = w.cell? p := World.cell?_of_block (w := w) (h.block p.block hp hs)

/-- A bucket on its way lies in block s from cell o on (pre ahead of it, post behind it): bytes n in t ticks, room R, level, latest time. -/
def StG (w : World) (s o : Nat) (pre post : List Value) (ty : TypeId) (n t R lev lat : Int) : Prop := pre.length = o ∧ w.heap[s]? = some (.cells (pre ++ .int .i64 n :: .int .i64 t :: .int .i64 R :: .int .i64 lev :: .int .i64 lat :: post).toArray ty (0, 0))
/-- One that has a block of its own. -/
abbrev StAt (w : World) (s : Nat) (n t R lev lat : Int) : Prop := StG w s 0 [] [] 169 n t R lev lat
theorem stg_at (pre post : List Value) (a b c d e : Value) : (pre ++ a :: b :: c :: d :: e :: post)[pre.length]? = some a ∧ (pre ++ a :: b :: c :: d :: e :: post)[pre.length + 1]? = some b ∧ (pre ++ a :: b :: c :: d :: e :: post)[pre.length + 2]? = some c ∧ (pre ++ a :: b :: c :: d :: e :: post)[pre.length + 3]? = some d ∧ (pre ++ a :: b :: c :: d :: e :: post)[pre.length + 4]? = some e := by
  refine ⟨?_, ?_, ?_, ?_, ?_⟩
  all_goals
    rw [List.getElem?_append_right (by omega)]
    simp
theorem StG.cells {w : World} {s o : Nat} {pre post : List Value} {ty : TypeId} {n t R lev lat : Int} (h : StG w s o pre post ty n t R lev lat) : w.cell? ⟨s, o, none⟩ = some (.int .i64 n) ∧ w.cell? ⟨s, o + 1, none⟩ = some (.int .i64 t) ∧ w.cell? ⟨s, o + 2, none⟩ = some (.int .i64 R) ∧ w.cell? ⟨s, o + 3, none⟩ = some (.int .i64 lev) ∧ w.cell? ⟨s, o + 4, none⟩ = some (.int .i64 lat) ∧ w.frozen? ⟨s, o + 3, none⟩ = false ∧ w.frozen? ⟨s, o + 4, none⟩ = false := by
  obtain ⟨rfl, h⟩ := h
  obtain ⟨h0, h1, h2, h3, h4⟩ := stg_at pre post (.int .i64 n) (.int .i64 t) (.int .i64 R) (.int .i64 lev) (.int .i64 lat)
  refine ⟨?_, ?_, ?_, ?_, ?_, ?_, ?_⟩
  · simp [World.cell?, h]
  · simp [World.cell?, h]
  · simp [World.cell?, h]
  · simp [World.cell?, h]
  · simp [World.cell?, h]
  · simp [World.frozen?, h]
  · simp [World.frozen?, h]
theorem StAt.cells {w : World} {s : Nat} {n t R lev lat : Int} (h : StAt w s n t R lev lat) : w.cell? ⟨s, 0, none⟩ = some (.int .i64 n) ∧ w.cell? ⟨s, 1, none⟩ = some (.int .i64 t) ∧ w.cell? ⟨s, 2, none⟩ = some (.int .i64 R) ∧ w.cell? ⟨s, 3, none⟩ = some (.int .i64 lev) ∧ w.cell? ⟨s, 4, none⟩ = some (.int .i64 lat) ∧ w.frozen? ⟨s, 3, none⟩ = false ∧ w.frozen? ⟨s, 4, none⟩ = false := StG.cells h
theorem StG.lt {w : World} {s o : Nat} {pre post : List Value} {ty : TypeId} {n t R lev lat : Int} (h : StG w s o pre post ty n t R lev lat) : s < w.heap.size := lt_of_block h.2
theorem StG.same {w w' : World} {s o : Nat} {pre post : List Value} {ty : TypeId} {n t R lev lat : Int} (h : StG w s o pre post ty n t R lev lat) (he : w'.heap[s]? = w.heap[s]?) : StG w' s o pre post ty n t R lev lat := ⟨h.1, he.trans h.2⟩
theorem StG.kept {w w' : World} {s o : Nat} {pre post : List Value} {ty : TypeId} {n t R lev lat : Int} {S : Nat → Prop} (h : StG w s o pre post ty n t R lev lat) (ho : Oth S w w') (hs : ¬ S s) : StG w' s o pre post ty n t R lev lat := h.same (ho.block s h.lt hs)
theorem StG.alloc {w : World} {s o : Nat} {pre post : List Value} {ty : TypeId} {n t R lev lat : Int} (h : StG w s o pre post ty n t R lev lat) (ob : Obj) : StG (w.alloc ob) s o pre post ty n t R lev lat := h.same (Below.heap_alloc w ob s h.lt)
theorem StG.drewN {w : World} {s o : Nat} {pre post : List Value} {ty : TypeId} {n t R lev lat : Int} (h : StG w s o pre post ty n t R lev lat) (k : Nat) : StG (w.drewN k) s o pre post ty n t R lev lat := h
theorem set_at {α : Type} (pre post : List α) (a b : α) (k : Nat) (c : List α) (hk : c.length = k) : (pre ++ (c ++ a :: post)).set (pre.length + k) b = pre ++ (c ++ b :: post) := by
  subst hk
  rw [List.set_append_right _ _ (by omega), Nat.add_sub_cancel_left, List.set_append_right _ _ (Nat.le_refl _), Nat.sub_self]
  rfl
theorem StG.setLev {w : World} {s o : Nat} {pre post : List Value} {ty : TypeId} {n t R lev lat : Int} (h : StG w s o pre post ty n t R lev lat) (v : Int) : StG (w.setCell ⟨s, o + 3, none⟩ (.int .i64 v)) s o pre post ty n t R v lat := by
  refine ⟨h.1, ?_⟩
  obtain ⟨rfl, h⟩ := h
  have hlt := lt_of_block h
  have h' := Option.some.inj ((Array.getElem?_eq_getElem hlt).symm.trans h)
  show (w.heap.modify s _)[s]? = _
  rw [Array.getElem?_eq_getElem (by simpa using hlt), Array.getElem_modify_self, h']
  show some (Obj.cells _ _ _) = _
  rw [List.setIfInBounds_toArray]
  exact congrArg (fun l : List Value => some (Obj.cells l.toArray ty (0, 0))) (set_at pre (.int .i64 lat :: post) (.int .i64 lev) (.int .i64 v) 3 [.int .i64 n, .int .i64 t, .int .i64 R] rfl)
theorem StG.setLat {w : World} {s o : Nat} {pre post : List Value} {ty : TypeId} {n t R lev lat : Int} (h : StG w s o pre post ty n t R lev lat) (v : Int) : StG (w.setCell ⟨s, o + 4, none⟩ (.int .i64 v)) s o pre post ty n t R lev v := by
  refine ⟨h.1, ?_⟩
  obtain ⟨rfl, h⟩ := h
  have hlt := lt_of_block h
  have h' := Option.some.inj ((Array.getElem?_eq_getElem hlt).symm.trans h)
  show (w.heap.modify s _)[s]? = _
  rw [Array.getElem?_eq_getElem (by simpa using hlt), Array.getElem_modify_self, h']
  show some (Obj.cells _ _ _) = _
  rw [List.setIfInBounds_toArray]
  exact congrArg (fun l : List Value => some (Obj.cells l.toArray ty (0, 0))) (set_at pre post (.int .i64 lat) (.int .i64 v) 4 [.int .i64 n, .int .i64 t, .int .i64 R, .int .i64 lev] rfl)

/-- A bucket that may be. -/
def okB (n t R : Int) : Prop := (1 ≤ n ∧ n ≤ 1000000) ∧ (1 ≤ t ∧ t ≤ 1000000) ∧ 0 ≤ R ∧ R ≤ 1000000
theorem okB.room {n t R : Int} (h : okB n t R) : 0 ≤ R * t ∧ R * t ≤ 1000000000000 := by
  obtain ⟨_, h1, h2⟩ := h
  have := prod_bounds (n := t) (R := R) (a := 1000000) (b := 1000000) (by omega) h1.2 h2.1 h2.2
  omega

theorem worth_any {n t R lev lat : Int} (x : Int) {s o : Nat} {pre post : List Value} {ty : TypeId} (w : World) (h : StG w s o pre post ty n t R lev lat) (h0 : 0 ≤ x * t) (h1 : x * t ≤ 1000000000000) :
    Calls Tryz.prog 83 #[.pointer (some ⟨s, o, none⟩), .int .i64 x] w fun e w' => e = .returned (.int .i64 (x * t)) ∧ w' = w := by
  obtain ⟨c0, c1, c2, c3, c4, f3, f4⟩ := h.cells
  go_enter Tryz.func83, Tryz.ntmps83
  go_wp2
  go_ret
  exact ⟨rfl, rfl⟩

/-- What is told of so much more: what finds no room. -/
def ovp (t R lev more : Int) : Int := if lev + more ≤ R * t then 0 else lev + more - R * t
/-- What is left behind a draw of x bytes. -/
def drw (t lev x : Int) : Int := if x * t ≤ lev then lev - x * t else lev
def drwB (t lev x : Int) : Bool := decide (x * t ≤ lev)

theorem pour_any {n t R lev lat : Int} (more : Int) {s o : Nat} {pre post : List Value} {ty : TypeId} (w : World) (h : StG w s o pre post ty n t R lev lat) (hr0 : 0 ≤ R * t) (hr1 : R * t ≤ 1000000000000) (hl0 : 0 ≤ lev) (hl1 : lev ≤ R * t) (hm0 : 0 ≤ more) (hm1 : more ≤ 2000000000000000) :
    Calls Tryz.prog 197 #[.pointer (some ⟨s, o, none⟩), .int .i64 more] w fun e w' => e = .returned (.int .i64 (ovp t R lev more)) ∧ StG w' s o pre post ty n t R (pou t R lev more) lat ∧ Oth (· = s) w w' := by
  obtain ⟨c0, c1, c2, c3, c4, f3, f4⟩ := h.cells
  have H : Hid (StG w s o pre post ty n t R lev lat) := h
  clear h
  by_cases hc : lev + more ≤ R * t
  · have HC : Hid (lev + more ≤ R * t) := hc
    go_enter Tryz.func197, Tryz.ntmps197
    go_wp2
    go_quiet ((go_at_call 83; exact Calls.quiet_of_same (worth_any _ _ H.out hr0 hr1)))
    go_wp2
    go_ret
    refine ⟨by rw [ovp, if_pos HC.out]; rfl, ?_, ((Oth.refl (· = s) w).drewN _).setCell (p := ⟨s, o + 3, none⟩) rfl _⟩
    rw [pou, if_pos HC.out]
    exact (H.out.drewN _).setLev _
  · have HC : Hid (R * t < lev + more) := Int.not_le.1 hc
    go_enter Tryz.func197, Tryz.ntmps197
    go_wp2
    go_quiet ((go_at_call 83; exact Calls.quiet_of_same (worth_any _ _ H.out hr0 hr1)))
    go_wp2
    go_ret
    refine ⟨by rw [ovp, if_neg (Int.not_le.2 HC.out)]; rfl, ?_, ((Oth.refl (· = s) w).drewN _).setCell (p := ⟨s, o + 3, none⟩) rfl _⟩
    have e : pou t R lev more = lev + (more - (lev + more - R * t)) := by rw [pou, if_neg (Int.not_le.2 HC.out)]; omega
    rw [e]
    exact (H.out.drewN _).setLev _

theorem pass_any {n t R lev lat : Int} (now : Int) {s o : Nat} {pre post : List Value} {ty : TypeId} (w : World) (h : StG w s o pre post ty n t R lev lat) (hb : okB n t R) (hl0 : 0 ≤ lev) (hl1 : lev ≤ R * t) (ht0 : 0 ≤ lat) (ht1 : now ≤ 1000000000) :
    Calls Tryz.prog 196 #[.pointer (some ⟨s, o, none⟩), .int .i64 now] w fun e w' => e = .returned (.int .i64 (ovr n t R lev lat now)) ∧ StG w' s o pre post ty n t R (pas n t R lev lat now) (lat1 lat now) ∧ Oth (· = s) w w' := by
  obtain ⟨hr0, hr1⟩ := hb.room
  obtain ⟨c0, c1, c2, c3, c4, f3, f4⟩ := h.cells
  have H : Hid (StG w s o pre post ty n t R lev lat) := h
  clear h
  by_cases hc : now ≤ lat
  · have HC : Hid (now ≤ lat) := hc
    clear hb
    go_enter Tryz.func196, Tryz.ntmps196
    go_wp2
    go_ret
    refine ⟨by rw [ovr, if_pos HC.out]; rfl, ?_, Oth.refl _ _⟩
    rw [pas, lat1, if_pos HC.out, if_pos HC.out]
    exact H.out
  · have HC : Hid (lat < now) := Int.not_le.1 hc
    obtain ⟨hn, _, _⟩ := hb
    have hg := prod_bounds (n := n) (R := now - lat) (a := 1000000) (b := 1000000000) (by omega) hn.2 (by omega) (by omega)
    obtain ⟨hg0, hg1⟩ := hg
    have hg1' : (now - lat) * n ≤ 2000000000000000 := by omega
    have H2 : Hid (StG (w.setCell ⟨s, o + 4, none⟩ (.int .i64 now)) s o pre post ty n t R lev now) := H.out.setLat now
    obtain ⟨d0, d1, d2, d3, d4, g3, g4⟩ := H2.out.cells
    have HP := pour_any ((now - lat) * n) _ H2.out hr0 hr1 hl0 hl1 hg0 hg1'
    go_enter Tryz.func196, Tryz.ntmps196
    go_wp2_with (go_at_call 197; refine HP.mono ?_; rintro e w1 ⟨rfl, hs1, ho1⟩)
    go_ret
    refine ⟨?_, ?_, ((Oth.refl (· = s) w).setCell (p := ⟨s, o + 4, none⟩) rfl _).trans ho1⟩
    · rw [ovr, if_neg (Int.not_le.2 HC.out)]; rfl
    · rw [pas, lat1, if_neg (Int.not_le.2 HC.out), if_neg (Int.not_le.2 HC.out)]
      exact hs1
theorem cell_drewN {w : World} {a : Addr} {v : Value} (h : w.cell? a = some v) (n : Nat) : (w.drewN n).cell? a = some v := h
theorem draw_any {n t R lev lat : Int} (x : Int) {s o : Nat} {pre post : List Value} {ty : TypeId} (w : World) (h : StG w s o pre post ty n t R lev lat) (hb : okB n t R) (hl0 : 0 ≤ lev) (hl1 : lev ≤ R * t) (hx0 : 0 ≤ x) (hx1 : x ≤ 1000000) :
    Calls Tryz.prog 195 #[.pointer (some ⟨s, o, none⟩), .int .i64 x] w fun e w' => e = .returned (.bool (drwB t lev x)) ∧ StG w' s o pre post ty n t R (drw t lev x) lat ∧ Oth (· = s) w w' := by
  obtain ⟨hr0, hr1⟩ := hb.room
  obtain ⟨hg0, hg1⟩ := prod_bounds (n := t) (R := x) (a := 1000000) (b := 1000000) (by have := hb.2.1; omega) hb.2.1.2 hx0 hx1
  have hg1' : x * t ≤ 1000000000000 := by omega
  have hwr : IntKind.i64.wrap (lev - x * t) = lev - x * t := by rw [IntKind.wrap_i64]; omega
  obtain ⟨c0, c1, c2, c3, c4, f3, f4⟩ := h.cells
  have H : Hid (StG w s o pre post ty n t R lev lat) := h
  clear h hb
  by_cases hc : x * t ≤ lev
  · have HC : Hid (x * t ≤ lev) := hc
    go_enter Tryz.func195, Tryz.ntmps195
    go_wp2
    go_quiet ((go_at_call 83; exact Calls.quiet_of_same (worth_any _ _ H.out hg0 hg1')))
    go_wp2
    go_region_with ((go_at_call 83; refine (worth_any _ _ (H.out.drewN _) hg0 hg1').mono ?_; rintro e w' ⟨rfl, rfl⟩))
    all_goals
      go_wp2
      go_ret
      refine ⟨by simp [drwB]; exact HC.out, ?_, ((Oth.refl (· = s) w).drewN _).setCell (p := ⟨s, o + 3, none⟩) rfl _⟩
      rw [drw, if_pos HC.out]
      exact (H.out.drewN _).setLev _
  · have HC : Hid (lev < x * t) := Int.not_le.1 hc
    go_enter Tryz.func195, Tryz.ntmps195
    go_wp2
    go_quiet ((go_at_call 83; exact Calls.quiet_of_same (worth_any _ _ H.out hg0 hg1')))
    go_wp2
    go_ret
    refine ⟨by simp [drwB]; exact HC.out, ?_, (Oth.refl (· = s) w).drewN _⟩
    rw [drw, if_neg (Int.not_le.2 HC.out)]
    exact H.out.drewN _
end Go.Proofs.YtfakjedolecdcaaGreatDoor
namespace Go.Proofs.YtfakjedolecdcaaGreatDoor
open Go.RowKit Go.Extern.Stop Go.Stop Go.Extern

theorem okB.rate {n t R : Int} (h : okB n t R) : okRate n t = true := by
  obtain ⟨h1, h2, _⟩ := h
  simp [okRate, wth]; omega
theorem bcheck_yes (n t R : Int) (w : World) (h : okB n t R) :
    Calls Tryz.prog 82 #[.agg #[.int .i64 n, .int .i64 t, .int .i64 R]] w fun e w' => e = .returned .nilIface ∧ Below w.heap.size w w' := by
  have HR : Hid (okRate n t = true) := h.rate
  obtain ⟨hn, ht, h0, h1⟩ := h
  go_enter Tryz.func82, Tryz.ntmps82
  go_wp2_with (go_at_call 28; refine (speed_yes _ _ _ HR.out).mono ?_; rintro e w' ⟨rfl, rfl⟩)
  go_ret
  exact ⟨rfl, ((Below.refl _ _).alloc (Nat.le_refl _) _).alloc (by simp) _⟩
theorem bcheck_no (n t R : Int) (w : World) (h : ¬ okB n t R) :
    Calls Tryz.prog 82 #[.agg #[.int .i64 n, .int .i64 t, .int .i64 R]] w fun e w' => e = .returned (.iface 57 (.int .i64 2)) ∧ Below w.heap.size w w' := by
  cases hr : okRate n t with
  | false =>
    have HR : Hid (okRate n t = false) := hr
    clear hr h
    go_enter Tryz.func82, Tryz.ntmps82
    go_wp2_with (go_at_call 28; refine (speed_no _ _ _ HR.out).mono ?_; rintro e w' ⟨rfl, rfl⟩)
    go_ret
    exact ⟨rfl, ((Below.refl _ _).alloc (Nat.le_refl _) _).alloc (by simp) _⟩
  | true =>
    have HR : Hid (okRate n t = true) := hr
    have hh : ¬ (0 ≤ R ∧ R ≤ 1000000) := fun hc => h (by
      simp only [okRate, Bool.and_eq_true, wth_iff] at hr
      exact ⟨hr.1, hr.2, hc⟩)
    clear hr h
    by_cases h0 : R < 0
    · clear hh
      go_enter Tryz.func82, Tryz.ntmps82
      go_wp2_with (go_at_call 28; refine (speed_yes _ _ _ HR.out).mono ?_; rintro e w' ⟨rfl, rfl⟩)
      go_ret
      exact ⟨rfl, ((Below.refl _ _).alloc (Nat.le_refl _) _).alloc (by simp) _⟩
    · have h1 : 1000000 < R := by omega
      clear hh
      go_enter Tryz.func82, Tryz.ntmps82
      go_wp2_with (go_at_call 28; refine (speed_yes _ _ _ HR.out).mono ?_; rintro e w' ⟨rfl, rfl⟩)
      go_ret
      exact ⟨rfl, ((Below.refl _ _).alloc (Nat.le_refl _) _).alloc (by simp) _⟩

theorem tell_yes {n t R lev lat : Int} (now : Int) {s o : Nat} {pre post : List Value} {ty : TypeId} (w : World) (h : StG w s o pre post ty n t R lev lat) (hb : okB n t R) (hl0 : 0 ≤ lev) (hl1 : lev ≤ R * t) (ht0 : 0 ≤ lat) (ht1 : now ≤ 1000000000) :
    Calls Tryz.prog 194 #[.pointer (some ⟨s, o, none⟩), .int .i64 now] w fun e w' => e = .returned (.bool true) ∧ StG w' s o pre post ty n t R (pas n t R lev lat now) (lat1 lat now) ∧ Oth (· = s) w w' := by
  obtain ⟨c0, c1, c2, c3, c4, f3, f4⟩ := h.cells
  have H : Hid (StG w s o pre post ty n t R lev lat) := h
  have HB : Hid (okB n t R) := hb
  have HL0 : Hid (0 ≤ lev) := hl0
  have HL1 : Hid (lev ≤ R * t) := hl1
  clear h hb
  go_enter Tryz.func194, Tryz.ntmps194
  go_wp2_with fail
  refine (bcheck_yes _ _ _ _ HB.out).mono ?_
  rintro e w1 ⟨rfl, hb1⟩
  have H1 : Hid (StG w1 s o pre post ty n t R lev lat) := H.out.kept (S := fun _ => False) (Oth.of_below hb1) id
  go_wp2_with (go_at_call 196; refine (pass_any _ _ H1.out HB.out HL0.out HL1.out ht0 ht1).mono ?_; rintro e w2 ⟨rfl, hs2, ho2⟩)
  go_ret
  exact ⟨rfl, hs2, (Oth.of_below hb1).trans ho2⟩

/-- A bucket's state when it is told the time: level, latest. -/
theorem pas_room {n t R lev lat now : Int} (hn : 1 ≤ n) (hl0 : 0 ≤ lev) (hl1 : lev ≤ R * t) : 0 ≤ pas n t R lev lat now ∧ pas n t R lev lat now ≤ R * t := by
  unfold pas
  split
  · exact ⟨hl0, hl1⟩
  · have : 0 ≤ (now - lat) * n := Int.mul_nonneg (by omega) (by omega)
    split <;> omega
theorem take_yes {n t R lev lat : Int} (now x : Int) {s o : Nat} {pre post : List Value} {ty : TypeId} (w : World) (h : StG w s o pre post ty n t R lev lat) (hb : okB n t R) (hl0 : 0 ≤ lev) (hl1 : lev ≤ R * t) (ht0 : 0 ≤ lat) (ht1 : now ≤ 1000000000) (hx0 : 0 ≤ x) (hx1 : x ≤ 1000000) :
    Calls Tryz.prog 192 #[.pointer (some ⟨s, o, none⟩), .int .i64 now, .int .i64 x] w fun e w' => e = .returned (.bool (drwB t (pas n t R lev lat now) x)) ∧ StG w' s o pre post ty n t R (drw t (pas n t R lev lat now) x) (lat1 lat now) ∧ Oth (· = s) w w' := by
  have HT := tell_yes now w h hb hl0 hl1 ht0 ht1
  have hp := pas_room (n := n) (t := t) (R := R) (lat := lat) (now := now) hb.1.1 hl0 hl1
  have HP : Hid (0 ≤ pas n t R lev lat now ∧ pas n t R lev lat now ≤ R * t) := hp
  have HB : Hid (okB n t R) := hb
  clear h hb hp
  go_enter Tryz.func192, Tryz.ntmps192
  go_wp2_with (first | (go_at_call 194; refine HT.mono ?_; rintro e w1 ⟨rfl, hs1, ho1⟩) | (go_at_call 195; refine (draw_any _ _ hs1 HB.out HP.out.1 HP.out.2 hx0 hx1).mono ?_; rintro e w2 ⟨rfl, hs2, ho2⟩))
  go_ret
  exact ⟨rfl, hs2, ho1.trans ho2⟩

theorem new_no (n t R : Int) (w : World) (h : ¬ okB n t R) :
    Calls Tryz.prog 69 #[.agg #[.int .i64 n, .int .i64 t, .int .i64 R]] w fun e w' => e = .returned (.tuple #[.pointer none, .iface 57 (.int .i64 2)]) ∧ Below w.heap.size w w' := by
  have H : Hid (¬ okB n t R) := h
  clear h
  go_enter Tryz.func69, Tryz.ntmps69
  go_wp2_with (go_at_call 82; refine (bcheck_no _ _ _ _ H.out).mono ?_; rintro e w1 ⟨rfl, hb1⟩)
  go_ret2
  exact ⟨rfl, ((Below.refl _ _).alloc (Nat.le_refl _) _).trans (hb1.mono (by simp))⟩
theorem new_yes (n t R : Int) (w : World) (h : okB n t R) :
    Calls Tryz.prog 69 #[.agg #[.int .i64 n, .int .i64 t, .int .i64 R]] w fun e w' => ∃ s, e = .returned (.tuple #[.pointer (some ⟨s, 0, none⟩), .nilIface]) ∧ w.heap.size ≤ s ∧ StAt w' s n t R (R * t) 0 ∧ Below w.heap.size w w' := by
  have H : Hid (okB n t R) := h
  clear h
  go_enter Tryz.func69, Tryz.ntmps69
  go_wp2_with fail
  refine (bcheck_yes _ _ _ _ H.out).mono ?_
  rintro e w1 ⟨rfl, hb1⟩
  have c0 : w1.cell? ⟨w.heap.size, 0, none⟩ = some (.int .i64 n) := by rw [hb1.cell (by simp)]; simp
  have c1 : w1.cell? ⟨w.heap.size, 1, none⟩ = some (.int .i64 t) := by rw [hb1.cell (by simp)]; simp
  have c2 : w1.cell? ⟨w.heap.size, 2, none⟩ = some (.int .i64 R) := by rw [hb1.cell (by simp)]; simp
  have hlt : w.heap.size < w1.heap.size := lt_of_cell c0
  have hB : Below w.heap.size w w1 := ((Below.refl _ _).alloc (Nat.le_refl _) _).trans (hb1.mono (by simp))
  have HS : Hid (StAt (w1.alloc (.cells #[.int .i64 n, .int .i64 t, .int .i64 R, .int .i64 0, .int .i64 0] 169)) w1.heap.size n t R 0 0) := ⟨rfl, heap_alloc_new _ _⟩
  obtain ⟨d0, d1, d2, d3, d4, f3, f4⟩ := HS.out.cells
  have hr := H.out.room
  obtain ⟨hr0, hr1⟩ := hr
  go_wp2_with (go_at_call 83; refine (worth_any _ _ HS.out hr0 hr1).mono ?_; rintro e w' ⟨rfl, rfl⟩)
  go_ret2
  exact ⟨_, rfl, hB.size, ⟨rfl, heap_alloc_new _ _⟩, hB.alloc hB.size _⟩
end Go.Proofs.YtfakjedolecdcaaGreatDoor
namespace Go.Proofs.YtfakjedolecdcaaGreatDoor
open Go.RowKit Go.Extern.Stop Go.Stop Go.Extern

/-- Packets that may be. -/
def okL (xs : List It) : Prop := (listE xs).1 = 0
theorem okL.fine {xs : List It} (h : okL xs) : Fine xs ∧ xs.length ≤ 100 := by
  unfold okL at h
  have hl : ¬ 100 < xs.length := fun hl => by rw [listE_long hl] at h; simp at h
  have hf : ∀ j, j < xs.length → faultAt xs j = 0 := by
    intro j hj
    cases hb : firstBad xs with
    | none =>
      unfold firstBad at hb
      simp at hb
      exact hb j hj
    | some i =>
      exfalso
      simp only [listE, hl, if_false, hb] at h
      unfold firstBad at hb
      rw [List.find?_range_eq_some] at hb
      have := hb.1
      simp [h] at this
  refine ⟨fun k x hx => ?_, by omega⟩
  have hk : k < xs.length := (List.getElem?_eq_some_iff.1 hx).1
  have h1 := hf k hk
  have hok : x.ok = true := by
    cases ho : x.ok with
    | true => rfl
    | false => rw [fault_range hx ho] at h1; simp at h1
  have hok' := hok
  simp only [It.ok, Bool.and_eq_true, wth_iff] at hok'
  refine ⟨by omega, fun y hy => ?_⟩
  have hk1 : k + 1 < xs.length := (List.getElem?_eq_some_iff.1 hy).1
  have h2 := hf (k + 1) hk1
  have hoy : y.ok = true := by
    cases ho : y.ok with
    | true => rfl
    | false => rw [fault_range hy ho] at h2; simp at h2
  by_cases hc : y.a < x.a
  · rw [fault_order hy hx hoy hc] at h2; simp at h2
  · omega
theorem okL.nil {w : World} {v : Value} {xs : List It} (h : okL xs) (he : ErrIs w v (listE xs).1 (listE xs).2) : v = .nilIface := by
  rw [show (listE xs).1 = 0 from h] at he
  rcases he with ⟨h, _⟩ | ⟨_, h, _⟩ | ⟨_, _, _, _, h, _⟩
  · exact h
  · exact absurd rfl h
  · exact absurd rfl h
/-- An error that is one is no nil. -/
theorem ErrIs.iface {w : World} {v : Value} {E P : Int} (h : ErrIs w v E P) (hE : E ≠ 0) : ∃ t u, v = .iface t u := by
  rcases h with ⟨_, h, _⟩ | ⟨h, _⟩ | ⟨a, h, _⟩
  · exact absurd h hE
  · exact ⟨_, _, h⟩
  · exact ⟨_, _, h⟩

theorem ItemsAt.lt {w : World} {b off : Nat} {xs : List It} (h : ItemsAt w (some ⟨b, off, none⟩) xs) (h0 : xs ≠ []) : b < w.heap.size := by
  rcases h with h | ⟨b', off', e, hI⟩
  · exact absurd h h0
  · cases e
    obtain ⟨y, hy⟩ : ∃ y, xs[0]? = some y := by
      cases xs with
      | nil => exact absurd rfl h0
      | cons y ys => exact ⟨y, rfl⟩
    exact lt_of_cell (hI 0 y hy).1
end Go.Proofs.YtfakjedolecdcaaGreatDoor
