/-
  Filters as mathematics: what they mean, with not ahead of tests alone, how they are written. Conditions: none.
-/
import Derived.Test.YtibecinojkkjpaaGreatDoorChk
import Derived.Lib.Join
import Derived.Lib.ItoaNum
import Derived.Lib.ItoaLen
namespace Go.Proofs.YtibecinojkkjpaaGreatDoor

/-- A filter: its kind (0 any, 1 from lo to hi, 2 the bits of lo, 3 not, 4 all, 5 some), its field, its numbers, what is within. -/
structure Ft where
  k : Nat
  f : Nat
  lo : Int
  hi : Int
  l : List Ft
def anyT : Ft := ⟨0, 0, 0, 0, []⟩
def notT (t : Ft) : Ft := ⟨3, 0, 0, 0, [t]⟩
/-- A packet's number. -/
def fld (x : It) (f : Nat) : Int := if f = 0 then x.a else if f = 1 then x.l else if f = 2 then x.f else if f = 3 then x.b else x.m
def bandI (a b : Int) : Int := bits .and .i64 a b
def nameF (f : Nat) : List UInt8 := if f = 0 then [97, 116] else if f = 1 then [108, 101, 110] else if f = 2 then [102, 108, 111, 119] else if f = 3 then [98, 97, 110, 100] else [109, 97, 114, 107]
def means (x : It) : Nat → Ft → Bool
  | 0, _ => true
  | d + 1, t => if t.k = 0 then true else if t.k = 1 then decide (t.lo ≤ fld x t.f) && decide (fld x t.f ≤ t.hi) else if t.k = 2 then bandI (fld x t.f) t.lo == t.lo
    else if t.k = 3 then t.l.all (fun y => !means x d y) else if t.k = 4 then t.l.all (means x d) else t.l.any (means x d)
def turn : Nat → Bool → Ft → Ft
  | 0, _, t => t
  | d + 1, no, t => if t.k < 3 then (if no then notT t else t) else if t.k = 3 then turn d (!no) (t.l.headD anyT)
    else ⟨if no then 9 - t.k else t.k, 0, 0, 0, t.l.map (turn d no)⟩
def textF : Nat → Ft → List UInt8
  | 0, _ => []
  | d + 1, t => if t.k = 0 then [97, 110, 121] else if t.k = 1 then Lib.join [nameF t.f, Lib.itoa t.lo] [32] ++ (if t.lo < t.hi then [46, 46] ++ Lib.itoa t.hi else [])
    else if t.k = 2 then Lib.join [nameF t.f, [104, 97, 115], Lib.itoa t.lo] [32] else if t.k = 3 then Lib.join [[110, 111, 116], textF d (t.l.headD anyT)] [32]
    else [40] ++ Lib.join (t.l.map (textF d)) (if t.k = 4 then [32, 97, 110, 100, 32] else [32, 111, 114, 32]) ++ [41]
/-- How many filters there are in one. -/
def nd : Nat → Ft → Nat
  | 0, _ => 1
  | d + 1, t => if t.k < 3 then 1 else 1 + (t.l.map (nd d)).sum
/-- One that may be read: its numbers are from 0 to 1000000000; no more than so many stand one in the other. -/
def okF : Nat → Ft → Prop
  | 0, _ => False
  | d + 1, t => t = anyT ∨ (t.k = 1 ∧ t.f < 5 ∧ 0 ≤ t.lo ∧ t.lo ≤ t.hi ∧ t.hi ≤ 1000000000) ∨ (t.k = 2 ∧ t.f < 5 ∧ 0 ≤ t.lo ∧ t.lo ≤ 1000000000)
    ∨ (∃ y, t = notT y ∧ okF d y) ∨ (∃ k l, t = ⟨k, 0, 0, 0, l⟩ ∧ (k = 4 ∨ k = 5) ∧ ∀ y ∈ l, okF d y)
theorem okF_up : ∀ (d : Nat) (t : Ft), okF d t → okF (d + 1) t
  | 0, _, h => h.elim
  | d + 1, t, h => by
    rcases h with h | h | h | ⟨y, h, hy⟩ | ⟨k, l, h, hk, hl⟩
    · exact Or.inl h
    · exact Or.inr (Or.inl h)
    · exact Or.inr (Or.inr (Or.inl h))
    · exact Or.inr (Or.inr (Or.inr (Or.inl ⟨y, h, okF_up d y hy⟩)))
    · exact Or.inr (Or.inr (Or.inr (Or.inr ⟨k, l, h, hk, fun y hy => okF_up d y (hl y hy)⟩)))
theorem turn_not (d : Nat) (no : Bool) (y : Ft) : turn (d + 1) no (notT y) = turn d (!no) y := rfl
theorem turn_lst (d : Nat) (no : Bool) {k : Nat} (l : List Ft) (hk : k = 4 ∨ k = 5) : turn (d + 1) no ⟨k, 0, 0, 0, l⟩ = ⟨if no then 9 - k else k, 0, 0, 0, l.map (turn d no)⟩ := by rcases hk with rfl | rfl <;> rfl
theorem textF_not (d : Nat) (y : Ft) : textF (d + 1) (notT y) = Lib.join [[110, 111, 116], textF d y] [32] := rfl
theorem textF_lst (d : Nat) {k : Nat} (l : List Ft) (hk : k = 4 ∨ k = 5) : textF (d + 1) ⟨k, 0, 0, 0, l⟩ = [40] ++ Lib.join (l.map (textF d)) (if k = 4 then [32, 97, 110, 100, 32] else [32, 111, 114, 32]) ++ [41] := by rcases hk with rfl | rfl <;> rfl
theorem nd_not (d : Nat) (y : Ft) : nd (d + 1) (notT y) = 1 + nd d y := by show 1 + ([y].map (nd d)).sum = _; simp
theorem nd_lst (d : Nat) {k : Nat} (l : List Ft) (hk : k = 4 ∨ k = 5) : nd (d + 1) ⟨k, 0, 0, 0, l⟩ = 1 + (l.map (nd d)).sum := by rcases hk with rfl | rfl <;> rfl
theorem means_not (x : It) (d : Nat) (y : Ft) : means x (d + 1) (notT y) = !means x d y := by show [y].all (fun y => !means x d y) = _; simp
theorem all_congr' {α : Type} {f g : α → Bool} {l : List α} (h : ∀ y ∈ l, f y = g y) : l.all f = l.all g := by
  induction l with
  | nil => rfl
  | cons a l ih => simp only [List.all_cons]; rw [h a (by simp), ih fun y hy => h y (by simp [hy])]
theorem any_congr' {α : Type} {f g : α → Bool} {l : List α} (h : ∀ y ∈ l, f y = g y) : l.any f = l.any g := by
  induction l with
  | nil => rfl
  | cons a l ih => simp only [List.any_cons]; rw [h a (by simp), ih fun y hy => h y (by simp [hy])]
theorem means_up (x : It) : ∀ (d : Nat) (t : Ft), okF d t → means x (d + 1) t = means x d t
  | 0, _, h => h.elim
  | d + 1, t, h => by
    rcases h with h | ⟨h, _⟩ | ⟨h, _⟩ | ⟨y, h, hy⟩ | ⟨k, l, h, hk, hl⟩
    · subst h; simp [means, anyT]
    · simp [means, h]
    · simp [means, h]
    · subst h
      rw [means_not, means_not, means_up x d y hy]
    · subst h
      have h2 : ∀ y ∈ l, means x (d + 1) y = means x d y := fun y hy => means_up x d y (hl y hy)
      rw [means, means]
      rcases hk with rfl | rfl
      · simp; rw [all_congr' h2]
      · simp; rw [any_congr' h2]
theorem turn_up : ∀ (d : Nat) (no : Bool) (t : Ft), okF d t → turn (d + 1) no t = turn d no t
  | 0, _, _, h => h.elim
  | d + 1, no, t, h => by
    rcases h with h | ⟨h, _⟩ | ⟨h, _⟩ | ⟨y, h, hy⟩ | ⟨k, l, h, hk, hl⟩
    · subst h; simp [turn, anyT]
    · simp [turn, h]
    · simp [turn, h]
    · subst h
      rw [turn_not, turn_not, turn_up d (!no) y hy]
    · subst h
      have h2 : l.map (turn (d + 1) no) = l.map (turn d no) := List.map_congr_left fun y hy => turn_up d no y (hl y hy)
      rw [turn_lst _ _ _ hk, turn_lst _ _ _ hk, h2]
theorem textF_up : ∀ (d : Nat) (t : Ft), okF d t → textF (d + 1) t = textF d t
  | 0, _, h => h.elim
  | d + 1, t, h => by
    rcases h with h | ⟨h, _⟩ | ⟨h, _⟩ | ⟨y, h, hy⟩ | ⟨k, l, h, hk, hl⟩
    · subst h; simp [textF, anyT]
    · simp [textF, h]
    · simp [textF, h]
    · subst h
      rw [textF_not, textF_not, textF_up d y hy]
    · subst h
      have h2 : l.map (textF (d + 1)) = l.map (textF d) := List.map_congr_left fun y hy => textF_up d y (hl y hy)
      rw [textF_lst _ _ hk, textF_lst _ _ hk, h2]
theorem ok_turn : ∀ (d : Nat) (no : Bool) (t : Ft), okF d t → okF (d + 1) (turn d no t)
  | 0, _, _, h => h.elim
  | d + 1, no, t, h => by
    have h' := h
    have h1 := okF_up _ _ h
    have leaf : t.k < 3 → okF (d + 2) (turn (d + 1) no t) := fun hk => by
      rw [turn, if_pos hk]
      cases no
      · exact h1
      · exact Or.inr (Or.inr (Or.inr (Or.inl ⟨t, rfl, h'⟩)))
    rcases h with h | ⟨h, _⟩ | ⟨h, _⟩ | ⟨y, h, hy⟩ | ⟨k, l, h, hk, hl⟩
    · exact leaf (by rw [h]; decide)
    · exact leaf (by omega)
    · exact leaf (by omega)
    · subst h
      rw [turn_not]
      exact okF_up _ _ (ok_turn d (!no) y hy)
    · subst h
      rw [turn_lst _ _ _ hk]
      refine Or.inr (Or.inr (Or.inr (Or.inr ⟨_, _, rfl, by cases no <;> simp <;> omega, ?_⟩)))
      intro y hy
      obtain ⟨z, hz, rfl⟩ := List.mem_map.1 hy
      exact ok_turn d no z (hl z hz)
theorem means_turn (x : It) : ∀ (d : Nat) (no : Bool) (t : Ft), okF d t → means x (d + 1) (turn d no t) = (means x d t != no)
  | 0, _, _, h => h.elim
  | d + 1, no, t, h => by
    have h' := h
    have leaf : t.k < 3 → means x (d + 2) (turn (d + 1) no t) = (means x (d + 1) t != no) := fun hk => by
      rw [turn, if_pos hk]
      cases no
      · simp [means_up x _ _ h']
      · rw [if_pos rfl, means_not]; simp
    rcases h with h | ⟨h, _⟩ | ⟨h, _⟩ | ⟨y, h, hy⟩ | ⟨k, l, h, hk, hl⟩
    · exact leaf (by rw [h]; decide)
    · exact leaf (by omega)
    · exact leaf (by omega)
    · subst h
      have h1 := means_turn x d (!no) y hy
      have h2 := means_up x _ _ (ok_turn d (!no) y hy)
      have e1 : turn (d + 1) no (notT y) = turn d (!no) y := turn_not _ _ _
      have e2 : means x (d + 1) (notT y) = !means x d y := means_not _ _ _
      rw [e1, e2, h2, h1]
      cases means x d y <;> cases no <;> rfl
    · subst h
      have h1 : ∀ y ∈ l, means x (d + 1) (turn d no y) = (means x d y != no) := fun y hy => means_turn x d no y (hl y hy)
      have e1 : turn (d + 1) no ⟨k, 0, 0, 0, l⟩ = ⟨if no then 9 - k else k, 0, 0, 0, l.map (turn d no)⟩ := turn_lst _ _ _ hk
      rw [e1]
      rcases hk with rfl | rfl
      · cases no
        · rw [means, means]; simp; exact all_congr' fun y hy => by simpa using h1 y hy
        · rw [means, means]; simp; rw [List.any_eq_not_all_not]; congr 1; exact all_congr' fun y hy => by have := h1 y hy; simp_all
      · cases no
        · rw [means, means]; simp; exact any_congr' fun y hy => by simpa using h1 y hy
        · rw [means, means]; simp; rw [List.all_eq_not_any_not]; congr 1; exact any_congr' fun y hy => by have := h1 y hy; simp_all
theorem turn_turn : ∀ (d : Nat) (no : Bool) (t : Ft), okF d t → turn (d + 1) false (turn d no t) = turn d no t
  | 0, _, _, h => h.elim
  | d + 1, no, t, h => by
    have h' := h
    have leaf : t.k < 3 → turn (d + 2) false (turn (d + 1) no t) = turn (d + 1) no t := fun hk => by
      have e : turn (d + 1) no t = if no then notT t else t := by rw [turn, if_pos hk]
      rw [e]
      cases no
      · simp only [Bool.false_eq_true, if_false]; rw [turn, if_pos hk]; simp
      · simp only [if_true]
        have e2 : turn (d + 2) false (notT t) = turn (d + 1) true t := turn_not _ _ _
        rw [e2, turn, if_pos hk]; simp
    rcases h with h | ⟨h, _⟩ | ⟨h, _⟩ | ⟨y, h, hy⟩ | ⟨k, l, h, hk, hl⟩
    · exact leaf (by rw [h]; decide)
    · exact leaf (by omega)
    · exact leaf (by omega)
    · subst h
      have h1 := turn_turn d (!no) y hy
      have h2 := turn_up _ false _ (ok_turn d (!no) y hy)
      have e1 : turn (d + 1) no (notT y) = turn d (!no) y := turn_not _ _ _
      rw [e1, h2, h1]
    · subst h
      have e1 : turn (d + 1) no ⟨k, 0, 0, 0, l⟩ = ⟨if no then 9 - k else k, 0, 0, 0, l.map (turn d no)⟩ := turn_lst _ _ _ hk
      have h1 : (l.map (turn d no)).map (turn (d + 1) false) = l.map (turn d no) := by
        rw [List.map_map]; exact List.map_congr_left fun y hy => turn_turn d no y (hl y hy)
      rw [e1]
      have hk2 : ¬ (if no = true then 9 - k else k) < 3 ∧ ¬ (if no = true then 9 - k else k) = 3 := by cases no <;> simp <;> omega
      rw [turn, if_neg hk2.1, if_neg hk2.2]
      simp only [h1, Bool.false_eq_true, if_false]
theorem sum_map_le {α : Type} {f g : α → Nat} {l : List α} (c : Nat) (h : ∀ y ∈ l, f y ≤ c * g y) : (l.map f).sum ≤ c * (l.map g).sum := by
  induction l with
  | nil => simp
  | cons a l ih =>
    have h1 := h a (by simp)
    have h2 := ih fun y hy => h y (by simp [hy])
    simp only [List.map_cons, List.sum_cons, Nat.mul_add]
    omega
theorem nd_pos : ∀ (d : Nat) (t : Ft), 1 ≤ nd d t
  | 0, _ => by simp [nd]
  | d + 1, t => by rw [nd]; split <;> omega
theorem nd_up : ∀ (d : Nat) (t : Ft), okF d t → nd (d + 1) t = nd d t
  | 0, _, h => h.elim
  | d + 1, t, h => by
    rcases h with h | ⟨h, _⟩ | ⟨h, _⟩ | ⟨y, h, hy⟩ | ⟨k, l, h, hk, hl⟩
    · subst h; simp [nd, anyT]
    · simp [nd, h]
    · simp [nd, h]
    · subst h
      rw [nd_not, nd_not, nd_up d y hy]
    · subst h
      have h2 : l.map (nd (d + 1)) = l.map (nd d) := List.map_congr_left fun y hy => nd_up d y (hl y hy)
      rw [nd_lst _ _ hk, nd_lst _ _ hk, h2]
theorem nd_turn : ∀ (d : Nat) (no : Bool) (t : Ft), okF d t → nd (d + 1) (turn d no t) ≤ 2 * nd d t
  | 0, _, _, h => h.elim
  | d + 1, no, t, h => by
    have h' := h
    have leaf : t.k < 3 → nd (d + 2) (turn (d + 1) no t) ≤ 2 * nd (d + 1) t := fun hk => by
      have e : turn (d + 1) no t = if no then notT t else t := by rw [turn, if_pos hk]
      have e1 : nd (d + 1) t = 1 := by rw [nd, if_pos hk]
      rw [e]
      cases no
      · simp [nd_up _ _ h', e1]
      · simp only [if_true]; rw [nd_not, e1]; omega
    rcases h with h | ⟨h, _⟩ | ⟨h, _⟩ | ⟨y, h, hy⟩ | ⟨k, l, h, hk, hl⟩
    · exact leaf (by rw [h]; decide)
    · exact leaf (by omega)
    · exact leaf (by omega)
    · subst h
      have h1 := nd_turn d (!no) y hy
      have h2 := nd_up _ _ (ok_turn d (!no) y hy)
      have e1 : turn (d + 1) no (notT y) = turn d (!no) y := turn_not _ _ _
      have e2 : nd (d + 1) (notT y) = 1 + nd d y := nd_not _ _
      rw [e1, e2, h2]; omega
    · subst h
      have e1 : turn (d + 1) no ⟨k, 0, 0, 0, l⟩ = ⟨if no then 9 - k else k, 0, 0, 0, l.map (turn d no)⟩ := turn_lst _ _ _ hk
      have hk2 : (if no = true then 9 - k else k) = 4 ∨ (if no = true then 9 - k else k) = 5 := by cases no <;> simp <;> omega
      have h1 : (l.map fun y => nd (d + 1) (turn d no y)).sum ≤ 2 * (l.map (nd d)).sum := sum_map_le 2 fun y hy => nd_turn d no y (hl y hy)
      have e3 : (l.map (turn d no)).map (nd (d + 1)) = l.map fun y => nd (d + 1) (turn d no y) := by rw [List.map_map]; rfl
      rw [e1, nd_lst _ _ hk2, nd_lst _ _ hk, e3]
      omega
theorem nd_el {d : Nat} : ∀ (l : List Ft) (y : Ft), y ∈ l → nd d y ≤ (l.map (nd d)).sum := by
  intro l
  induction l with
  | nil => intro y hy; cases hy
  | cons a l ih =>
    intro y hy
    simp only [List.map_cons, List.sum_cons]
    rcases List.mem_cons.1 hy with rfl | hy
    · omega
    · have := ih y hy; omega
theorem nd_len {d : Nat} : ∀ (l : List Ft), l.length ≤ (l.map (nd d)).sum := by
  intro l
  induction l with
  | nil => simp
  | cons a l ih => have := nd_pos d a; simp only [List.length_cons, List.map_cons, List.sum_cons]; omega
theorem join_le (xs : List (List UInt8)) (sep : List UInt8) : (Lib.join xs sep).length ≤ (xs.map fun x => x.length + sep.length).sum := by
  have h : ∀ xs : List (List UInt8), (xs.map fun x => x.length + sep.length).sum = sep.length * xs.length + Lib.lens xs := by
    intro xs
    induction xs with
    | nil => simp [Lib.lens]
    | cons x xs ih => simp only [List.map_cons, List.sum_cons, ih, List.length_cons, Lib.lens, Nat.mul_add]; omega
  cases xs with
  | nil => simp [Lib.join_nil]
  | cons x r =>
    rw [Lib.join_length, h, List.length_cons, Nat.mul_add]
    omega
theorem nameF_len (f : Nat) : (nameF f).length ≤ 4 := by unfold nameF; (repeat' split) <;> simp
theorem itoa_len {n : Int} (h0 : 0 ≤ n) (h1 : n ≤ 1000000000) : (Lib.itoa n).length ≤ 21 := Lib.itoa_length_le n (by omega) (by omega)
theorem textF_len : ∀ (d : Nat) (t : Ft), okF d t → (textF d t).length + 5 ≤ 60 * nd d t
  | 0, _, h => h.elim
  | d + 1, t, h => by
    rcases h with h | ⟨h, _, h0, h1, h2⟩ | ⟨h, _, h0, h1⟩ | ⟨y, h, hy⟩ | ⟨k, l, h, hk, hl⟩
    · subst h; simp [textF, nd, anyT]
    · have a1 := nameF_len t.f
      have a2 := itoa_len h0 (by omega)
      have a3 := itoa_len (n := t.hi) (by omega) h2
      have e : nd (d + 1) t = 1 := by simp [nd, h]
      rw [e, textF, if_neg (by omega), if_pos h]
      have := join_le [nameF t.f, Lib.itoa t.lo] [32]
      simp at this
      split <;> simp <;> omega
    · have a1 := nameF_len t.f
      have a2 := itoa_len h0 h1
      have e : nd (d + 1) t = 1 := by simp [nd, h]
      rw [e, textF, if_neg (by omega), if_neg (by omega), if_pos h]
      have := join_le [nameF t.f, [104, 97, 115], Lib.itoa t.lo] [32]
      simp at this
      omega
    · subst h
      have h1 := textF_len d y hy
      have := join_le [[110, 111, 116], textF d y] [32]
      rw [textF_not, nd_not]
      simp at this
      omega
    · subst h
      have h1 : (l.map fun y => (textF d y).length + 5).sum ≤ 60 * (l.map (nd d)).sum := sum_map_le 60 fun y hy => textF_len d y (hl y hy)
      have h2 := join_le (l.map (textF d)) (if k = 4 then [32, 97, 110, 100, 32] else [32, 111, 114, 32])
      have h3 : ((l.map (textF d)).map fun x => x.length + (if k = 4 then [32, 97, 110, 100, 32] else [32, 111, 114, 32] : List UInt8).length).sum ≤ (l.map fun y => (textF d y).length + 5).sum := by
        rw [List.map_map]
        have := sum_map_le (l := l) (f := (fun x => x.length + (if k = 4 then [32, 97, 110, 100, 32] else [32, 111, 114, 32] : List UInt8).length) ∘ textF d) (g := fun y => (textF d y).length + 5) 1 (fun y _ => by simp only [Function.comp, Nat.one_mul]; split <;> simp)
        simpa using this
      rw [textF_lst _ _ hk, nd_lst _ _ hk]
      simp only [List.length_append, List.length_cons, List.length_nil]
      omega
end Go.Proofs.YtibecinojkkjpaaGreatDoor
