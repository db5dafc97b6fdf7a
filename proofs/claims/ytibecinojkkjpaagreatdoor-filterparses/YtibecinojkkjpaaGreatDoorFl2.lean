/-
  How filters are read, as mathematics; a filter in memory. Conditions: none.
-/
import Derived.Test.YtibecinojkkjpaaGreatDoorFl1
import Derived.Test.YtibecinojkkjpaaGreatDoorSy2
import Derived.Lib.IndexMore
namespace Go.Proofs.YtibecinojkkjpaaGreatDoor
open Go.RowKit Go.Extern.Stop Go.Stop Go.Extern

def fieldL (l : List UInt8) : Option Nat := if l == [97, 116] then some 0 else if l == [108, 101, 110] then some 1 else if l == [102, 108, 111, 119] then some 2 else if l == [98, 97, 110, 100] then some 3 else if l == [109, 97, 114, 107] then some 4 else none
def numF (l : List UInt8) : Option Int := match numL l with | some n => if 0 ≤ n ∧ n ≤ 1000000000 then some n else none | none => none
def cutA (l : List UInt8) : List UInt8 := (Lib.cut l [46, 46]).1
def cutB (l : List UInt8) : List UInt8 := if (Lib.cut l [46, 46]).2.2 then (Lib.cut l [46, 46]).2.1 else (Lib.cut l [46, 46]).1
/-- What is said of a word that is no number that may be. -/
def numC (l : List UInt8) : Int := match numL l with | some _ => 2 | none => 3
def hdW (L : List (List UInt8 × Nat)) : List UInt8 := (L.headD ([], 0)).1
/-- Where the next sign stands; n is where the text ends. -/
def hdP (n : Nat) (L : List (List UInt8 × Nat)) : Nat := (L.headD ([], n)).2
def wdF (word s : List UInt8) : List UInt8 := if word == [] then s else word
/-- What is read, and what is left; or what is wrong, and where. -/
abbrev Rd : Type := Except (Int × Nat) (Ft × List (List UInt8 × Nat))
/-- What stands in parentheses. -/
def grpF (n : Nat) (rd : List (List UInt8 × Nat) → Rd) : Nat → List UInt8 → List Ft → List (List UInt8 × Nat) → Rd
  | 0, _, _, _ => .error (0, 0)
  | k + 1, word, parts, L => match rd L with
    | .error e => .error e
    | .ok (t, R) => if hdW R == [41] then .ok (⟨if word == [111, 114] then 5 else 4, 0, 0, 0, parts ++ [t]⟩, R.tail)
      else if (hdW R == (wdF word (hdW R))) && ((wdF word (hdW R)) == [97, 110, 100] || (wdF word (hdW R)) == [111, 114]) then grpF n rd k (wdF word (hdW R)) (parts ++ [t]) R.tail
      else .error (3, hdP n R)
/-- From where to where. -/
def testF (f : Nat) (l : List UInt8) : Except Int Ft := match numF (cutA l) with
  | none => .error (numC (cutA l))
  | some lo => match numF (cutB l) with
    | none => .error (numC (cutB l))
    | some hi => if hi < lo then .error 10 else .ok ⟨1, f, lo, hi, []⟩
/-- What is behind a field. -/
def tstF (n f : Nat) (L : List (List UInt8 × Nat)) : Rd :=
  if hdW L == [104, 97, 115] then (match numF (hdW L.tail) with | some q => .ok (⟨2, f, q, 0, []⟩, L.tail.tail) | none => .error (numC (hdW L.tail), hdP n L.tail))
  else (match testF f (hdW L) with | .ok t => .ok (t, L.tail) | .error c => .error (c, hdP n L))
/-- A filter, of signs; so many may stand one in the other. -/
def readF (n : Nat) : Nat → List (List UInt8 × Nat) → Rd
  | 0, L => .error (4, hdP n L)
  | d + 1, L => if hdW L == [97, 110, 121] then .ok (anyT, L.tail)
    else if hdW L == [110, 111, 116] then (match readF n d L.tail with | .ok p => .ok (notT p.1, p.2) | .error e => .error e)
    else if hdW L == [40] then grpF n (readF n d) (L.tail.length + 1) [] [] L.tail
    else match fieldL (hdW L) with | some f => tstF n f L.tail | none => .error (3, hdP n L)
theorem ok_inj {a b : Ft × List (List UInt8 × Nat)} (h : (Except.ok a : Rd) = Except.ok b) : a = b := by injection h
theorem hdW_ne {L : List (List UInt8 × Nat)} {x : UInt8} {l : List UInt8} (h : (hdW L == x :: l) = true) : L.tail.length + 1 = L.length := by
  cases L with
  | nil => simp [hdW] at h
  | cons a L => simp
theorem fieldL_ne {L : List (List UInt8 × Nat)} {f : Nat} (h : fieldL (hdW L) = some f) : L.tail.length + 1 = L.length := by
  cases L with
  | nil => simp [hdW, fieldL] at h
  | cons a L => simp
theorem tail_le (L : List (List UInt8 × Nat)) : L.tail.length ≤ L.length := by rw [List.length_tail]; omega
theorem grpF_len {n d : Nat} {rd : List (List UInt8 × Nat) → Rd} (hrd : ∀ L t R, rd L = .ok (t, R) → nd d t + R.length ≤ L.length) :
    ∀ (k : Nat) (word : List UInt8) (parts : List Ft) (L : List (List UInt8 × Nat)) (t : Ft) (R : List (List UInt8 × Nat)), grpF n rd k word parts L = .ok (t, R) → nd (d + 1) t + R.length ≤ 1 + (parts.map (nd d)).sum + L.length
  | 0, _, _, _, _, _, h => by rw [grpF] at h; cases h
  | k + 1, word, parts, L, t, R, h => by
    rw [grpF] at h
    rcases hr : rd L with e | p
    · rw [hr] at h; cases h
    · obtain ⟨u, R1⟩ := p
      have h1 := hrd L u R1 hr
      have h2 := tail_le R1
      rw [hr] at h
      simp only [] at h
      split at h
      · obtain ⟨rfl, rfl⟩ := Prod.mk.inj (ok_inj h)
        rw [nd_lst _ _ (by split <;> simp)]
        simp
        omega
      · split at h
        · have := grpF_len hrd k _ _ _ _ _ h
          simp at this
          omega
        · cases h
theorem tstF_len {n d f : Nat} {L R : List (List UInt8 × Nat)} {t : Ft} (h : tstF n f L = .ok (t, R)) : nd (d + 1) t = 1 ∧ R.length ≤ L.length := by
  unfold tstF at h
  split at h
  · split at h
    · obtain ⟨rfl, rfl⟩ := Prod.mk.inj (ok_inj h)
      have := tail_le L; have := tail_le L.tail
      exact ⟨by simp [nd], by omega⟩
    · cases h
  · split at h
    · rename_i t' ht
      obtain ⟨rfl, rfl⟩ := Prod.mk.inj (ok_inj h)
      refine ⟨?_, tail_le L⟩
      unfold testF at ht
      split at ht
      · cases ht
      · split at ht
        · cases ht
        · split at ht
          · cases ht
          · injection ht with ht
            subst ht
            simp [nd]
    · cases h
theorem readF_len (n : Nat) : ∀ (d : Nat) (L : List (List UInt8 × Nat)) (t : Ft) (R : List (List UInt8 × Nat)), readF n d L = .ok (t, R) → nd d t + R.length ≤ L.length
  | 0, _, _, _, h => by rw [readF] at h; cases h
  | d + 1, L, t, R, h => by
    rw [readF] at h
    split at h
    · rename_i hw
      have := hdW_ne hw
      obtain ⟨rfl, rfl⟩ := Prod.mk.inj (ok_inj h)
      simp [nd, anyT]
      simp at this
      omega
    · split at h
      · rename_i hw
        have h1 := hdW_ne hw
        split at h
        · rename_i p hp
          obtain ⟨rfl, rfl⟩ := Prod.mk.inj (ok_inj h)
          have := readF_len n d L.tail p.1 p.2 (by rw [hp])
          rw [nd_not]
          omega
        · cases h
      · split at h
        · rename_i hw
          have h1 := hdW_ne hw
          have := grpF_len (fun L t R => readF_len n d L t R) _ _ _ _ _ _ h
          simp at this h1
          omega
        · split at h
          · rename_i f hf
            have h1 := fieldL_ne hf
            obtain ⟨h2, h3⟩ := tstF_len (d := d) h
            omega
          · cases h
/-- A filter in memory: v is its value; each block of it keeps to S. -/
def FAt (w : World) (S : Nat → Prop) : Nat → Ft → Value → Prop
  | 0, _, _ => False
  | d + 1, t, v =>
    (t = anyT ∧ v = .iface 76 (.agg #[])) ∨
    (∃ (f : Nat) (lo hi : Int), t = ⟨1, f, lo, hi, []⟩ ∧ v = .iface 111 (.agg #[.int .i64 f, .int .i64 lo, .int .i64 hi]) ∧ f < 5 ∧ 0 ≤ lo ∧ lo ≤ hi ∧ hi ≤ 1000000000) ∨
    (∃ (f : Nat) (n : Int), t = ⟨2, f, n, 0, []⟩ ∧ v = .iface 134 (.agg #[.int .i64 f, .int .i64 n]) ∧ f < 5 ∧ 0 ≤ n ∧ n ≤ 1000000000) ∨
    (∃ y u, t = notT y ∧ v = .iface 93 (.agg #[u]) ∧ FAt w S d y u) ∨
    (∃ (k : Nat) (l : List Ft) (b : Nat) (sl : Value) (vs : List Value), t = ⟨k, 0, 0, 0, l⟩ ∧ (k = 4 ∨ k = 5) ∧ v = .iface (if k = 4 then 94 else 95) (.pointer (some ⟨b, 0, none⟩)) ∧ S b ∧
      w.heap[b]? = some (.cells #[sl] (if k = 4 then 99 else 100) (0, 0)) ∧ (∀ j, sl.ownBlock = some j → S j) ∧ Seg w 29 1 sl l.length vs ∧ vs.length = l.length ∧ ∀ (i : Nat) y u, l[i]? = some y → vs[i]? = some u → FAt w S d y u)
theorem FAt.ok {w : World} {S : Nat → Prop} : ∀ {d : Nat} {t : Ft} {v : Value}, FAt w S d t v → okF d t
  | 0, _, _, h => h.elim
  | d + 1, t, v, h => by
    rcases h with ⟨h, _⟩ | ⟨f, lo, hi, h, _, h1, h2, h3, h4⟩ | ⟨f, n, h, _, h1, h2, h3⟩ | ⟨y, u, h, _, hy⟩ | ⟨k, l, b, sl, vs, h, hk, _, _, _, _, _, hl, hel⟩
    · exact Or.inl h
    · subst h; exact Or.inr (Or.inl ⟨rfl, h1, h2, h3, h4⟩)
    · subst h; exact Or.inr (Or.inr (Or.inl ⟨rfl, h1, h2, h3⟩))
    · exact Or.inr (Or.inr (Or.inr (Or.inl ⟨y, h, FAt.ok hy⟩)))
    · refine Or.inr (Or.inr (Or.inr (Or.inr ⟨k, l, h, hk, fun y hy => ?_⟩)))
      obtain ⟨i, hi⟩ := List.mem_iff_getElem?.1 hy
      have hlt : i < vs.length := by rw [hl]; exact (List.getElem?_eq_some_iff.1 hi).1
      exact FAt.ok (hel i y _ hi (List.getElem?_eq_getElem hlt))
theorem FAt.kept {w w' : World} {S S' : Nat → Prop} (hk : ∀ k, S k → k < w.heap.size → w'.heap[k]? = w.heap[k]? ∧ S' k) : ∀ {d : Nat} {t : Ft} {v : Value}, FAt w S d t v → FAt w' S' d t v
  | 0, _, _, h => h.elim
  | d + 1, t, v, h => by
    rcases h with h | h | h | ⟨y, u, h, hv, hy⟩ | ⟨k, l, b, sl, vs, h, hk4, hv, hS, hb, hsl, hseg, hl, hel⟩
    · exact Or.inl h
    · exact Or.inr (Or.inl h)
    · exact Or.inr (Or.inr (Or.inl h))
    · exact Or.inr (Or.inr (Or.inr (Or.inl ⟨y, u, h, hv, FAt.kept hk hy⟩)))
    · exact Or.inr (Or.inr (Or.inr (Or.inr ⟨k, l, b, sl, vs, h, hk4, hv, (hk b hS (lt_of_block hb)).2, (hk b hS (lt_of_block hb)).1.trans hb, fun j hj => (hk j (hsl j hj) (hseg.lt hj)).2, hseg.kept fun j hj => (hk j (hsl j hj) (hseg.lt hj)).1, hl, fun i y u h1 h2 => FAt.kept hk (hel i y u h1 h2)⟩)))
theorem FAt.below {w w' : World} {S : Nat → Prop} {d : Nat} {t : Ft} {v : Value} (h : FAt w S d t v) (hb : Below w.heap.size w w') : FAt w' S d t v := h.kept fun k hS hk => ⟨hb.block k hk, hS⟩
theorem FAt.ot {w w' : World} {S R : Nat → Prop} {d : Nat} {t : Ft} {v : Value} (h : FAt w S d t v) (ho : Ot R w w') (hS : ∀ k, S k → ¬ R k) : FAt w' S d t v := h.kept fun k hs hk => ⟨ho.block k hk (hS k hs), hs⟩
theorem FAt.sub {w : World} {S S' : Nat → Prop} {d : Nat} {t : Ft} {v : Value} (h : FAt w S d t v) (hS : ∀ k, S k → S' k) : FAt w S' d t v := h.kept fun k hs _ => ⟨rfl, hS k hs⟩
theorem FAt.form {w : World} {S : Nat → Prop} {d : Nat} {t : Ft} {v : Value} (h : FAt w S d t v) : ∃ T p, v = .iface T p := by
  cases d with
  | zero => exact h.elim
  | succ d => rcases h with ⟨_, h⟩ | ⟨_, _, _, _, h, _⟩ | ⟨_, _, _, h, _⟩ | ⟨_, _, _, h, _⟩ | ⟨_, _, _, _, _, _, _, h, _⟩ <;> exact ⟨_, _, h⟩
/-- What the program has laid that filters want. -/
structure GlobF (w : World) : Prop where
  num : Glob w
  c0 : w.cell? ⟨2, 0, none⟩ = some (.string ⟨#[97, 116]⟩)
  c1 : w.cell? ⟨2, 1, none⟩ = some (.string ⟨#[108, 101, 110]⟩)
  c2 : w.cell? ⟨2, 2, none⟩ = some (.string ⟨#[102, 108, 111, 119]⟩)
  c3 : w.cell? ⟨2, 3, none⟩ = some (.string ⟨#[98, 97, 110, 100]⟩)
  c4 : w.cell? ⟨2, 4, none⟩ = some (.string ⟨#[109, 97, 114, 107]⟩)
  ml : ∃ m, w.cell? ⟨3, 0, none⟩ = some (.int .i64 m)
theorem cell_lt {w : World} {a : Addr} {v : Value} (h : w.cell? a = some v) : a.block < w.heap.size := by
  rcases Nat.lt_or_ge a.block w.heap.size with h1 | h1
  · exact h1
  · simp [World.cell?, Array.getElem?_eq_none h1] at h
theorem GlobF.below {w w' : World} (h : GlobF w) (hb : Below w.heap.size w w') : GlobF w' :=
  ⟨h.num.below hb, (hb.cell (p := ⟨_, 0, none⟩) (cell_lt h.c0)).trans h.c0, (hb.cell (p := ⟨_, 1, none⟩) (cell_lt h.c1)).trans h.c1, (hb.cell (p := ⟨_, 2, none⟩) (cell_lt h.c2)).trans h.c2, (hb.cell (p := ⟨_, 3, none⟩) (cell_lt h.c3)).trans h.c3, (hb.cell (p := ⟨_, 4, none⟩) (cell_lt h.c4)).trans h.c4, h.ml.imp fun _ h => (hb.cell (p := ⟨_, 0, none⟩) (cell_lt h)).trans h⟩
end Go.Proofs.YtibecinojkkjpaaGreatDoor
