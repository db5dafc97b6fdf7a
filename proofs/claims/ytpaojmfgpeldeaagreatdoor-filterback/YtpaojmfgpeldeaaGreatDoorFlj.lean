/-
  The signs of a filter's text. Conditions: none.
-/
import Derived.Test.YtpaojmfgpeldeaaGreatDoorFli
namespace Go.Proofs.YtpaojmfgpeldeaaGreatDoor
open Go.RowKit

/-- What stands between two. -/
def sepW (k : Nat) : List UInt8 := if k = 4 then [97, 110, 100] else [111, 114]
/-- The words of a filter's text. -/
def tkW : Nat → Ft → List (List UInt8)
  | 0, _ => []
  | d + 1, t => if t.k = 0 then [[97, 110, 121]] else if t.k = 1 then [nameF t.f, numW t.lo t.hi] else if t.k = 2 then [nameF t.f, [104, 97, 115], Lib.itoa t.lo]
    else if t.k = 3 then [110, 111, 116] :: tkW d (t.l.headD anyT)
    else [40] :: ((match t.l with | [] => [] | y :: l => tkW d y ++ l.flatMap fun z => sepW t.k :: tkW d z) ++ [[41]])
theorem plain_name (f : Nat) : plainW (nameF f) ∧ nameF f ≠ [] := by
  unfold nameF
  refine ⟨?_, ?_⟩
  · intro b hb
    repeat' split at hb
    all_goals (simp at hb; rcases hb with rfl | rfl | rfl | rfl <;> rfl)
  · repeat' split
    all_goals simp
theorem plain_digit {b : UInt8} (h : 48 ≤ b.toNat ∧ b.toNat ≤ 57) : spB b = false := by
  have e : b ≠ 32 ∧ b ≠ 40 ∧ b ≠ 41 := ⟨fun e => by subst e; simp at h, fun e => by subst e; simp at h, fun e => by subst e; simp at h⟩
  simp [spB, e]
theorem plain_itoa {n : Int} (h0 : 0 ≤ n) : plainW (Lib.itoa n) := fun b hb => plain_digit (itoa_mem h0 b hb)
theorem plain_app {a b : List UInt8} (ha : plainW a) (hb : plainW b) : plainW (a ++ b) := fun c hc => by
  rcases List.mem_append.1 hc with h | h
  · exact ha c h
  · exact hb c h
theorem plain_numW {lo hi : Int} (h0 : 0 ≤ lo) : plainW (numW lo hi) ∧ numW lo hi ≠ [] := by
  unfold numW
  refine ⟨plain_app (plain_itoa h0) ?_, by simp [itoa_ne h0]⟩
  split
  · refine plain_app ?_ (plain_itoa (by omega))
    intro b hb
    simp at hb; subst hb; rfl
  · intro b hb; cases hb
theorem stop_blank (r : List UInt8) : stopR (32 :: r) := Or.inr ⟨32, r, rfl, rfl⟩
theorem stop_shut (r : List UInt8) : stopR (41 :: r) := Or.inr ⟨41, r, rfl, rfl⟩
theorem join2 (a b : List UInt8) : Lib.join [a, b] [32] = a ++ (32 :: b) := by rw [Lib.join_cons]; simp [Lib.joinTail]
theorem join3 (a b c : List UInt8) : Lib.join [a, b, c] [32] = a ++ (32 :: (b ++ (32 :: c))) := by rw [Lib.join_cons]; simp [Lib.joinTail]
theorem sepT (k : Nat) : (if k = 4 then [32, 97, 110, 100, 32] else [32, 111, 114, 32] : List UInt8) = 32 :: (sepW k ++ [32]) := by unfold sepW; split <;> rfl
theorem plain_sep (k : Nat) : plainW (sepW k) ∧ sepW k ≠ [] := by
  unfold sepW
  split
  · exact ⟨fun b hb => by simp at hb; rcases hb with rfl | rfl | rfl <;> rfl, by simp⟩
  · exact ⟨fun b hb => by simp at hb; rcases hb with rfl | rfl <;> rfl, by simp⟩
/-- A text's signs are its words; behind it goes on what goes on. -/
def TxtS (s : List UInt8) (W : List (List UInt8)) : Prop := ∀ (r : List UInt8) (p : Nat), stopR r → ∃ A q, signsL [32, 40, 41] (s ++ r) p = A ++ signsL [32, 40, 41] r q ∧ A.map (·.1) = W
theorem txt_word {l : List UInt8} (hl : plainW l) (hn : l ≠ []) : TxtS l [l] := fun r p hr => ⟨[(l, p)], p + l.length, by rw [sg_word hl hn hr p]; rfl, rfl⟩
/-- A blank between two. -/
theorem txt_two {a b : List UInt8} {A B : List (List UInt8)} (ha : TxtS a A) (hb : TxtS b B) : TxtS (a ++ (32 :: b)) (A ++ B) := by
  intro r p hr
  obtain ⟨X, q, e1, e2⟩ := ha (32 :: (b ++ r)) p (stop_blank _)
  obtain ⟨Y, q2, e3, e4⟩ := hb r (q + 1) hr
  refine ⟨X ++ Y, q2, ?_, by rw [List.map_append, e2, e4]⟩
  rw [List.append_assoc, List.cons_append, e1, sg_sp _ rfl]
  simp only [if_true, List.nil_append]
  rw [e3, List.append_assoc]
theorem txt_tail (sep : List UInt8) (hs : plainW sep ∧ sep ≠ []) : ∀ (xs : List (List UInt8 × List (List UInt8))), (∀ x ∈ xs, TxtS x.1 x.2) → ∀ (r : List UInt8) (p : Nat), stopR r → ∃ A q, signsL [32, 40, 41] (Lib.joinTail (32 :: (sep ++ [32])) (xs.map (·.1)) ++ r) p = A ++ signsL [32, 40, 41] r q ∧ A.map (·.1) = xs.flatMap fun z => sep :: z.2
  | [], _, r, p, _ => ⟨[], p, rfl, rfl⟩
  | x :: xs, h, r, p, hr => by
    have hst : stopR (Lib.joinTail (32 :: (sep ++ [32])) (xs.map (·.1)) ++ r) := by
      cases xs with
      | nil => exact hr
      | cons y ys => exact Or.inr ⟨32, _, by simp [Lib.joinTail]; rfl, rfl⟩
    obtain ⟨X, q, e1, e2⟩ := h x (by simp) (Lib.joinTail (32 :: (sep ++ [32])) (xs.map (·.1)) ++ r) (p + 1 + sep.length + 1) hst
    obtain ⟨Y, q2, e3, e4⟩ := txt_tail sep hs xs (fun z hz => h z (by simp [hz])) r q hr
    refine ⟨(sep, p + 1) :: (X ++ Y), q2, ?_, by simp [e2, e4]⟩
    have e0 : Lib.joinTail (32 :: (sep ++ [32])) ((x :: xs).map (·.1)) ++ r = 32 :: (sep ++ (32 :: (x.1 ++ (Lib.joinTail (32 :: (sep ++ [32])) (xs.map (·.1)) ++ r)))) := by simp [Lib.joinTail]
    rw [e0, sg_sp _ rfl, sg_word hs.1 hs.2 (stop_blank _), sg_sp _ rfl, e1, e3]
    simp
theorem txt_lst (k : Nat) (y : List UInt8 × List (List UInt8)) (xs : List (List UInt8 × List (List UInt8))) (hy : TxtS y.1 y.2) (h : ∀ x ∈ xs, TxtS x.1 x.2) :
    TxtS ([40] ++ Lib.join ((y :: xs).map (·.1)) (32 :: (sepW k ++ [32])) ++ [41]) ([40] :: ((y.2 ++ xs.flatMap fun z => sepW k :: z.2) ++ [[41]])) := by
  intro r p hr
  have hst : stopR (Lib.joinTail (32 :: (sepW k ++ [32])) (xs.map (·.1)) ++ (41 :: r)) := by
    cases xs with
    | nil => exact stop_shut r
    | cons y ys => exact Or.inr ⟨32, _, by simp [Lib.joinTail]; rfl, rfl⟩
  obtain ⟨X, q, e1, e2⟩ := hy _ (p + 1) hst
  obtain ⟨Y, q2, e3, e4⟩ := txt_tail (sepW k) (plain_sep k) xs h (41 :: r) q (stop_shut r)
  refine ⟨([40], p) :: (X ++ Y ++ [([41], q2)]), q2 + 1, ?_, by simp [e2, e4]⟩
  have e0 : [40] ++ Lib.join ((y :: xs).map (·.1)) (32 :: (sepW k ++ [32])) ++ [41] ++ r = 40 :: (y.1 ++ (Lib.joinTail (32 :: (sepW k ++ [32])) (xs.map (·.1)) ++ (41 :: r))) := by
    rw [List.map_cons, Lib.join_cons]; simp
  rw [e0, sg_sp _ rfl, e1, e3, sg_sp _ rfl]
  simp
/-- One that may be read: as okF, and parentheses have something within, some two at least. -/
def shp : Nat → Ft → Prop
  | 0, _ => False
  | d + 1, t => t = anyT ∨ (∃ (f : Nat) (lo hi : Int), t = ⟨1, f, lo, hi, []⟩ ∧ f < 5 ∧ 0 ≤ lo ∧ lo ≤ hi ∧ hi ≤ 1000000000) ∨ (∃ (f : Nat) (q : Int), t = ⟨2, f, q, 0, []⟩ ∧ f < 5 ∧ 0 ≤ q ∧ q ≤ 1000000000)
    ∨ (∃ y, t = notT y ∧ shp d y) ∨ (∃ k y l, t = ⟨k, 0, 0, 0, y :: l⟩ ∧ (k = 4 ∨ k = 5 ∧ l ≠ []) ∧ shp d y ∧ ∀ z ∈ l, shp d z)
theorem txt_ok : ∀ (d : Nat) (t : Ft), shp d t → TxtS (textF d t) (tkW d t)
  | 0, _, h => h.elim
  | d + 1, t, h => by
    rcases h with rfl | ⟨f, lo, hi, rfl, _, h0, h1, h2⟩ | ⟨f, q, rfl, _, h0, h1⟩ | ⟨y, rfl, hy⟩ | ⟨k, y, l, rfl, hk, hy, hl⟩
    · exact txt_word (l := [97, 110, 121]) (fun b hb => by simp at hb; rcases hb with rfl | rfl | rfl <;> rfl) (by simp)
    · have e1 : textF (d + 1) ⟨1, f, lo, hi, []⟩ = nameF f ++ (32 :: numW lo hi) := by
        show Lib.join [nameF f, Lib.itoa lo] [32] ++ (if lo < hi then [46, 46] ++ Lib.itoa hi else []) = _
        rw [join2]; simp [numW]
      rw [e1]
      exact txt_two (txt_word (plain_name f).1 (plain_name f).2) (txt_word (plain_numW h0).1 (plain_numW h0).2)
    · have e1 : textF (d + 1) ⟨2, f, q, 0, []⟩ = nameF f ++ (32 :: ([104, 97, 115] ++ (32 :: Lib.itoa q))) := by
        show Lib.join [nameF f, [104, 97, 115], Lib.itoa q] [32] = _
        rw [join3]
      rw [e1]
      exact txt_two (txt_word (plain_name f).1 (plain_name f).2) (txt_two (txt_word (l := [104, 97, 115]) (fun b hb => by simp at hb; rcases hb with rfl | rfl | rfl <;> rfl) (by simp)) (txt_word (plain_itoa h0) (itoa_ne h0)))
    · rw [textF_not, join2]
      exact txt_two (txt_word (l := [110, 111, 116]) (fun b hb => by simp at hb; rcases hb with rfl | rfl | rfl <;> rfl) (by simp)) (txt_ok d y hy)
    · have hk4 : k = 4 ∨ k = 5 := by omega
      rw [textF_lst _ _ hk4, sepT]
      have h1 := txt_lst k (textF d y, tkW d y) (l.map fun z => (textF d z, tkW d z)) (txt_ok d y hy) (fun x hx => by
        obtain ⟨z, hz, rfl⟩ := List.mem_map.1 hx
        exact txt_ok d z (hl z hz))
      have e2 : ((textF d y, tkW d y) :: l.map fun z => (textF d z, tkW d z)).map (·.1) = (y :: l).map (textF d) := by simp
      have e3 : ((l.map fun z => (textF d z, tkW d z)).flatMap fun z => sepW k :: z.2) = l.flatMap fun z => sepW k :: tkW d z := by rw [List.flatMap_map]
      rw [e2, e3] at h1
      have e4 : tkW (d + 1) ⟨k, 0, 0, 0, y :: l⟩ = [40] :: ((tkW d y ++ l.flatMap fun z => sepW k :: tkW d z) ++ [[41]]) := by rcases hk4 with rfl | rfl <;> rfl
      rw [e4]
      exact h1
end Go.Proofs.YtpaojmfgpeldeaaGreatDoor
