/-
  plain.Times: the steps with their times, in memory of the call's own; nothing that was there before is otherwise. Conditions: the steps lie in memory, a thousand at most.
-/
import Derived.Test.YtgklojgflcekoaaDoorSg
import Derived.Test.YtgklojgflcekoaaDoorChk
namespace Go.Proofs.YtgklojgflcekoaaDoor
open Go.RowKit Go.Extern.Stop Go.Stop Go.Extern

/-- A step: What, Later; At, Len, Flow, Band, Mark of its packet. -/
structure Stp where
  what : Int
  lt : Int
  a : Int
  l : Int
  f : Int
  b : Int
  m : Int
def Stp.cs (s : Stp) : List Value := [.int .i64 s.what, .int .i64 s.lt, .int .i64 s.a, .int .i64 s.l, .int .i64 s.f, .int .i64 s.b, .int .i64 s.m]
theorem Stp.len (s : Stp) : s.cs.length = 7 := rfl
theorem Stp.one (s : Stp) : ∀ u ∈ s.cs, u.oneCell' = true := by
  intro u hu
  simp only [Stp.cs, List.mem_cons, List.not_mem_nil, or_false] at hu
  rcases hu with rfl | rfl | rfl | rfl | rfl | rfl | rfl <;> rfl
/-- How many ticks later, from 0 to 1000. -/
def later (s : Stp) : Int := max 0 (min s.lt 1000)
theorem later_le (s : Stp) : 0 ≤ later s ∧ later s ≤ 1000 := by unfold later; omega
/-- A step at its time. -/
def timed (t : Int) (s : Stp) : Stp := { s with lt := t, a := t, what := if s.what = 0 ∧ It.ok ⟨t, s.l, s.f, s.b, s.m⟩ = false then 2 else s.what }
def nowAt (t : Int) : List Stp → Nat → Int
  | _, 0 => t
  | [], _ + 1 => t
  | s :: r, k + 1 => nowAt (t + later s) r k
def timesL (t : Int) : List Stp → List Stp
  | [] => []
  | s :: r => timed (t + later s) s :: timesL (t + later s) r
theorem timesL_length (t : Int) (xs : List Stp) : (timesL t xs).length = xs.length := by
  induction xs generalizing t with
  | nil => rfl
  | cons s r ih => simp [timesL, ih]
theorem nowAt_succ {t : Int} {xs : List Stp} {k : Nat} {s : Stp} (h : xs[k]? = some s) : nowAt t xs (k + 1) = nowAt t xs k + later s := by
  induction xs generalizing t k with
  | nil => simp at h
  | cons y r ih =>
    cases k with
    | zero =>
      simp at h; subst h
      cases r <;> rfl
    | succ k => simpa [nowAt] using ih (t := t + later y) (by simpa using h)
theorem timesL_at {t : Int} {xs : List Stp} {k : Nat} {s : Stp} (h : xs[k]? = some s) : (timesL t xs)[k]? = some (timed (nowAt t xs (k + 1)) s) := by
  induction xs generalizing t k with
  | nil => simp at h
  | cons y r ih =>
    cases k with
    | zero =>
      simp at h; subst h
      cases r <;> simp [timesL, nowAt]
    | succ k => simpa [timesL, nowAt] using ih (t := t + later y) (by simpa using h)
theorem nowAt_le (t : Int) (xs : List Stp) (k : Nat) : t ≤ nowAt t xs k ∧ nowAt t xs k ≤ t + 1000 * k := by
  induction xs generalizing t k with
  | nil => cases k <;> simp only [nowAt] <;> omega
  | cons y r ih =>
    cases k with
    | zero => simp only [nowAt]; omega
    | succ k =>
      have := ih (t + later y) k
      have := later_le y
      simp only [nowAt]
      omega
/-- Cells lie in memory, from an address on. -/
def Lies (w : World) (x : Option Addr) (cells : List Value) : Prop := cells = [] ∨ ∃ b off, x = some ⟨b, off, none⟩ ∧ b < w.heap.size ∧ ∀ j u, cells[j]? = some u → w.cell? ⟨b, off + j, none⟩ = some u
theorem Lies.below {w w' : World} {x : Option Addr} {cells : List Value} (h : Lies w x cells) (hb : Below w.heap.size w w') : Lies w' x cells := by
  rcases h with h | ⟨b, off, e, hl, h⟩
  · exact Or.inl h
  · exact Or.inr ⟨b, off, e, Nat.lt_of_lt_of_le hl hb.size, fun j u hj => by rw [hb.cell (p := ⟨b, off + j, none⟩) hl]; exact h j u hj⟩
theorem Lies.ot {S : Nat → Prop} {w w' : World} {x : Option Addr} {cells : List Value} (h : Lies w x cells) (hb : Ot S w w') (hs : ∀ a, x = some a → ¬ S a.block) : Lies w' x cells := by
  rcases h with h | ⟨b, off, e, hl, h⟩
  · exact Or.inl h
  · exact Or.inr ⟨b, off, e, Nat.lt_of_lt_of_le hl hb.size, fun j u hj => by rw [hb.cell (p := ⟨b, off + j, none⟩) hl (hs ⟨b, off, none⟩ e)]; exact h j u hj⟩
theorem Seg.lies {w : World} {e : TypeId} {k : Nat} {v : Value} {n : Nat} {xs : List Value} (h : Seg w e k v n xs) : ∃ x cap, v = .slice x n cap ∧ Lies w x xs := by
  rcases h.form with ⟨rfl, h0, hx⟩ | ⟨b, off, cap, rfl, _, _, hl, h⟩
  · exact ⟨none, 0, by rw [h0], Or.inl hx⟩
  · exact ⟨_, cap, rfl, Or.inr ⟨b, off, rfl, hl, h⟩⟩
theorem Lies.seven {w : World} {x : Option Addr} {xs : List Stp} (h : Lies w x (flt Stp.cs xs)) {k : Nat} {s : Stp} (hk : xs[k]? = some s) : ∃ b off, x = some ⟨b, off, none⟩ ∧ b < w.heap.size ∧ w.cell? ⟨b, off + k * 7, none⟩ = some (.int .i64 s.what) ∧ w.cell? ⟨b, off + k * 7 + 1, none⟩ = some (.int .i64 s.lt) ∧ w.cell? ⟨b, off + k * 7 + 2, none⟩ = some (.int .i64 s.a) ∧ w.cell? ⟨b, off + k * 7 + 3, none⟩ = some (.int .i64 s.l) ∧ w.cell? ⟨b, off + k * 7 + 4, none⟩ = some (.int .i64 s.f) ∧ w.cell? ⟨b, off + k * 7 + 5, none⟩ = some (.int .i64 s.b) ∧ w.cell? ⟨b, off + k * 7 + 6, none⟩ = some (.int .i64 s.m) := by
  have hat : ∀ j, j < 7 → (flt Stp.cs xs)[k * 7 + j]? = s.cs[j]? := fun j hj => flt_at Stp.cs 7 Stp.len hk hj
  rcases h with h | ⟨b, off, e, hl, h⟩
  · have := hat 0 (by omega)
    rw [h] at this
    simp [Stp.cs] at this
  · refine ⟨b, off, e, hl, ?_, ?_, ?_, ?_, ?_, ?_, ?_⟩
    · exact h _ _ (hat 0 (by omega))
    · exact h _ _ (hat 1 (by omega))
    · exact h _ _ (hat 2 (by omega))
    · exact h _ _ (hat 3 (by omega))
    · exact h _ _ (hat 4 (by omega))
    · exact h _ _ (hat 5 (by omega))
    · exact h _ _ (hat 6 (by omega))
end Go.Proofs.YtgklojgflcekoaaDoor
