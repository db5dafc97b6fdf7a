/-
  Two rows of rows that grow side by side: what lies in memory as the reference's promised and through are written. Nothing of the program is claimed here by itself.
-/
import Derived.Test.YtnaooocmggnojaaDoorSm1
import Derived.Test.YtnaooocmggnojaaDoorSdb
namespace Go.Proofs.YtnaooocmggnojaaDoor
open Go.RowKit Go.Extern.Stop Go.Stop Go.Extern

def updV (f : Nat → Value) (a : Nat) (b : Value) : Nat → Value := fun x => if x = a then b else f x
theorem updV_same (f : Nat → Value) (a : Nat) (b : Value) : updV f a b a = b := by simp [updV]
theorem updV_ne {f : Nat → Value} {a x : Nat} {b : Value} (h : x ≠ a) : updV f a b x = f x := by simp [updV, h]
def arrV (f : Nat → Value) (m : Nat) : Array Value := ((List.range m).map f).toArray
theorem arrV_at (f : Nat → Value) {m j : Nat} (h : j < m) : (arrV f m)[j]? = some (f j) := by simp [arrV, h]
theorem arrV_set (f : Nat → Value) (m a : Nat) (b : Value) : (arrV f m).setIfInBounds a b = arrV (updV f a b) m := by
  unfold arrV
  rw [List.setIfInBounds_toArray]
  congr 1
  apply List.ext_getElem?
  intro i
  by_cases hi : i < m
  · by_cases e : a = i
    · subst e; simp [updV, hi]
    · rw [List.getElem?_set_ne e]; simp [updV, hi, show i ≠ a from fun h => e h.symm]
  · rw [List.getElem?_eq_none (by simp; omega), List.getElem?_eq_none (by simp; omega)]

/-- Two rows of rows, in blocks of their own, not below lo. -/
structure PT (wr : World) (lo m b1 b2 : Nat) (PV TV : Nat → Value) (N : Nat → Nat) (P T : Nat → Nat → Int) : Prop where
  h1 : wr.heap[b1]? = some (.cells (arrV PV m) 36 (0, 0))
  h2 : wr.heap[b2]? = some (.cells (arrV TV m) 36 (0, 0))
  ne : b1 ≠ b2
  l1 : lo ≤ b1
  l2 : lo ≤ b2
  pv : ∀ j, j < m → Seg wr 3 1 (PV j) (N j) (vals (P j) (N j))
  tv : ∀ j, j < m → Seg wr 3 1 (TV j) (N j) (vals (T j) (N j))
  pl : ∀ j, j < m → ∀ b, (PV j).ownBlock = some b → lo ≤ b
  tl : ∀ j, j < m → ∀ b, (TV j).ownBlock = some b → lo ≤ b
  dp : ∀ j l, j < m → l < m → j ≠ l → ∀ b, (PV j).ownBlock = some b → (PV l).ownBlock ≠ some b
  dt : ∀ j l, j < m → l < m → j ≠ l → ∀ b, (TV j).ownBlock = some b → (TV l).ownBlock ≠ some b
  dq : ∀ j l, j < m → l < m → ∀ b, (PV j).ownBlock = some b → (TV l).ownBlock ≠ some b

theorem PT.step {wr : World} {lo m b1 b2 : Nat} {PV TV : Nat → Value} {N : Nat → Nat} {P T : Nat → Nat → Int} (h : PT wr lo m b1 b2 PV TV N P T) {f : Nat} (hf : f < m) {W0 : World} {pv tv : Value}
    (ho : Ot (fun b => (PV f).ownBlock = some b ∨ (TV f).ownBlock = some b) wr W0) (hp : Seg W0 3 1 pv (N f + 1) (vals (P f) (N f + 1))) (ht : Seg W0 3 1 tv (N f + 1) (vals (T f) (N f + 1)))
    (hpk : ∀ b, pv.ownBlock = some b → (PV f).ownBlock = some b ∨ wr.heap.size ≤ b) (htk : ∀ b, tv.ownBlock = some b → (TV f).ownBlock = some b ∨ wr.heap.size ≤ b) (hne : ∀ b, pv.ownBlock = some b → tv.ownBlock ≠ some b) (hlo : lo ≤ wr.heap.size) :
    PT ((W0.setCell ⟨b1, f, none⟩ pv).setCell ⟨b2, f, none⟩ tv) lo m b1 b2 (updV PV f pv) (updV TV f tv) (updN N f (N f + 1)) P T ∧ Ot (fun b => lo ≤ b) wr ((W0.setCell ⟨b1, f, none⟩ pv).setCell ⟨b2, f, none⟩ tv) := by
  have hs1 : ∀ b, ((PV f).ownBlock = some b ∨ (TV f).ownBlock = some b) → b ≠ b1 ∧ b ≠ b2 := by
    rintro b (e | e)
    · exact ⟨fun e' => (h.pv f hf).ne h.h1 (by decide) (e' ▸ e), fun e' => (h.pv f hf).ne h.h2 (by decide) (e' ▸ e)⟩
    · exact ⟨fun e' => (h.tv f hf).ne h.h1 (by decide) (e' ▸ e), fun e' => (h.tv f hf).ne h.h2 (by decide) (e' ▸ e)⟩
  have g1 : W0.heap[b1]? = some (.cells (arrV PV m) 36 (0, 0)) := (ho.block b1 (lt_of_block h.h1) (fun e => (hs1 b1 e).1 rfl)).trans h.h1
  have g2 : W0.heap[b2]? = some (.cells (arrV TV m) 36 (0, 0)) := (ho.block b2 (lt_of_block h.h2) (fun e => (hs1 b2 e).2 rfl)).trans h.h2
  have hO : Ot (fun b => b = b1 ∨ b = b2) W0 ((W0.setCell ⟨b1, f, none⟩ pv).setCell ⟨b2, f, none⟩ tv) := Ot.setCell (S := fun b => b = b1 ∨ b = b2) (p := ⟨b2, f, none⟩) (Ot.setCell (S := fun b => b = b1 ∨ b = b2) (p := ⟨b1, f, none⟩) (Ot.refl _ _) (Or.inl (Or.inl rfl)) _) (Or.inl (Or.inr rfl)) _
  have sg : ∀ {v : Value} {k : Nat} {xs : List Value}, Seg W0 3 1 v k xs → Seg ((W0.setCell ⟨b1, f, none⟩ pv).setCell ⟨b2, f, none⟩ tv) 3 1 v k xs := fun hv => hv.oth hO (fun b e e' => by
    rcases e' with e' | e'
    · subst e'; exact hv.ne g1 (by decide) e
    · subst e'; exact hv.ne g2 (by decide) e)
  have kp : ∀ j, j < m → j ≠ f → Seg W0 3 1 (PV j) (N j) (vals (P j) (N j)) := fun j hj e => (h.pv j hj).oth ho (fun b eb e' => by
    rcases e' with e' | e'
    · exact h.dp j f hj hf e b eb e'
    · exact h.dq j f hj hf b eb e')
  have kt : ∀ j, j < m → j ≠ f → Seg W0 3 1 (TV j) (N j) (vals (T j) (N j)) := fun j hj e => (h.tv j hj).oth ho (fun b eb e' => by
    rcases e' with e' | e'
    · exact h.dq f j hf hj b e' eb
    · exact h.dt j f hj hf e b eb e')
  have npv : ∀ l, l < m → l ≠ f → ∀ b, pv.ownBlock = some b → (PV l).ownBlock ≠ some b ∧ (TV l).ownBlock ≠ some b := fun l hl e b eb => by
    rcases hpk b eb with e' | e'
    · exact ⟨h.dp f l hf hl (Ne.symm e) b e', h.dq f l hf hl b e'⟩
    · exact ⟨fun x => by have := (h.pv l hl).lt x; omega, fun x => by have := (h.tv l hl).lt x; omega⟩
  have ntv : ∀ l, l < m → l ≠ f → ∀ b, tv.ownBlock = some b → (PV l).ownBlock ≠ some b ∧ (TV l).ownBlock ≠ some b := fun l hl e b eb => by
    rcases htk b eb with e' | e'
    · exact ⟨fun x => h.dq l f hl hf b x e', h.dt f l hf hl (Ne.symm e) b e'⟩
    · exact ⟨fun x => by have := (h.pv l hl).lt x; omega, fun x => by have := (h.tv l hl).lt x; omega⟩
  refine ⟨⟨?_, ?_, h.ne, h.l1, h.l2, ?_, ?_, ?_, ?_, ?_, ?_, ?_⟩, ?_⟩
  · rw [Below.heap_setCell _ _ _ _ (by show b1 ≠ b2; exact h.ne), heap_setCell_here g1, arrV_set]
  · rw [heap_setCell_here ((Below.heap_setCell _ _ _ _ (by show b2 ≠ b1; exact Ne.symm h.ne)).trans g2), arrV_set]
  · intro j hj
    by_cases e : j = f
    · subst e; rw [updV_same, updN_same]; exact sg hp
    · rw [updV_ne e, updN_ne e]; exact sg (kp j hj e)
  · intro j hj
    by_cases e : j = f
    · subst e; rw [updV_same, updN_same]; exact sg ht
    · rw [updV_ne e, updN_ne e]; exact sg (kt j hj e)
  · intro j hj b eb
    by_cases e : j = f
    · subst e
      rw [updV_same] at eb
      rcases hpk b eb with e' | e'
      · exact h.pl j hj b e'
      · omega
    · rw [updV_ne e] at eb; exact h.pl j hj b eb
  · intro j hj b eb
    by_cases e : j = f
    · subst e
      rw [updV_same] at eb
      rcases htk b eb with e' | e'
      · exact h.tl j hj b e'
      · omega
    · rw [updV_ne e] at eb; exact h.tl j hj b eb
  · intro j l hj hl hjl b eb
    by_cases e : j = f
    · subst e
      rw [updV_same] at eb
      rw [updV_ne (Ne.symm hjl)]
      exact (npv l hl (Ne.symm hjl) b eb).1
    · rw [updV_ne e] at eb
      by_cases e2 : l = f
      · subst e2; rw [updV_same]; exact fun x => (npv j hj e b x).1 eb
      · rw [updV_ne e2]; exact h.dp j l hj hl hjl b eb
  · intro j l hj hl hjl b eb
    by_cases e : j = f
    · subst e
      rw [updV_same] at eb
      rw [updV_ne (Ne.symm hjl)]
      exact (ntv l hl (Ne.symm hjl) b eb).2
    · rw [updV_ne e] at eb
      by_cases e2 : l = f
      · subst e2; rw [updV_same]; exact fun x => (ntv j hj e b x).2 eb
      · rw [updV_ne e2]; exact h.dt j l hj hl hjl b eb
  · intro j l hj hl b eb
    by_cases e : j = f
    · subst e
      rw [updV_same] at eb
      by_cases e2 : l = j
      · subst e2; rw [updV_same]; exact hne b eb
      · rw [updV_ne e2]; exact (npv l hl e2 b eb).2
    · rw [updV_ne e] at eb
      by_cases e2 : l = f
      · subst e2; rw [updV_same]; exact fun x => (ntv j hj e b x).1 eb
      · rw [updV_ne e2]; exact h.dq j l hj hl b eb
  · refine (ho.mono fun k _ hk => ?_).trans' hO (fun k hk _ => ?_)
    · rcases hk with e | e
      · exact h.pl f hf k e
      · exact h.tl f hf k e
    · rcases hk with e | e
      · rw [e]; exact h.l1
      · rw [e]; exact h.l2
theorem made_arr (m : Nat) (v : Value) : madeCells #[v] m = arrV (fun _ => v) m := by
  unfold madeCells arrV
  apply Array.ext
  · simp
  · intro i h1 h2
    simp
    rw [Nat.mod_one]
    rfl
/-- As they are made. -/
theorem PT.made {wr : World} {lo m b1 b2 : Nat} {P T : Nat → Nat → Int} (h1 : wr.heap[b1]? = some (.cells (arrV (fun _ => .slice none 0 0) m) 36 (0, 0))) (h2 : wr.heap[b2]? = some (.cells (arrV (fun _ => .slice none 0 0) m) 36 (0, 0))) (hne : b1 ≠ b2) (l1 : lo ≤ b1) (l2 : lo ≤ b2) :
    PT wr lo m b1 b2 (fun _ => .slice none 0 0) (fun _ => .slice none 0 0) (fun _ => 0) P T :=
  ⟨h1, h2, hne, l1, l2, fun _ _ => Seg.nil _ _ _, fun _ _ => Seg.nil _ _ _, fun _ _ b e => by simp [Value.ownBlock] at e, fun _ _ b e => by simp [Value.ownBlock] at e, fun _ _ _ _ _ b e => by simp [Value.ownBlock] at e, fun _ _ _ _ _ b e => by simp [Value.ownBlock] at e, fun _ _ _ _ b e => by simp [Value.ownBlock] at e⟩
/-- All cells are written: a plan. -/
theorem PT.plan {wr : World} {lo m b1 b2 Tk : Nat} {PV TV : Nat → Value} {C P : Nat → Nat → Int} {N K : Nat → Nat} {sv : Value} (h : PT wr lo m b1 b2 PV TV N P (thr P C m Tk)) (hN : ∀ j, j < m → N j = K j) (hs : Seg wr 3 1 sv Tk (vals (pik P C m) Tk)) (hT : Tk ≤ 1000) :
    PlanR wr m Tk C K P sv (.slice (some ⟨b1, 0, none⟩) m m) (.slice (some ⟨b2, 0, none⟩) m m) := by
  obtain ⟨x, cap, hx, hr⟩ := seg_row hs
  have h1 : ∀ i, ∃ px pk, i < m → PV i = .slice px (K i) pk ∧ Row wr px (K i) (P i) := fun i => by
    by_cases hi : i < m
    · have h3 := h.pv i hi
      rw [hN i hi] at h3
      obtain ⟨px, pk, e, hr⟩ := seg_row h3
      exact ⟨px, pk, fun _ => ⟨e, hr⟩⟩
    · exact ⟨none, 0, fun h => absurd h hi⟩
  have h2 : ∀ i, ∃ px pk, i < m → TV i = .slice px (K i) pk ∧ Row wr px (K i) (thr P C m Tk i) := fun i => by
    by_cases hi : i < m
    · have h3 := h.tv i hi
      rw [hN i hi] at h3
      obtain ⟨px, pk, e, hr⟩ := seg_row h3
      exact ⟨px, pk, fun _ => ⟨e, hr⟩⟩
    · exact ⟨none, 0, fun h => absurd h hi⟩
  refine ⟨⟨x, cap, hx, hr, by unfold maxLen; omega⟩, b1, 0, m, b2, 0, m, fun i => Classical.choose (h1 i), fun i => Classical.choose (h2 i), fun i => Classical.choose (Classical.choose_spec (h1 i)), fun i => Classical.choose (Classical.choose_spec (h2 i)), rfl, rfl, fun i hi => ?_⟩
  have g1 := Classical.choose_spec (Classical.choose_spec (h1 i)) hi
  have g2 := Classical.choose_spec (Classical.choose_spec (h2 i)) hi
  refine ⟨?_, ?_, g1.2, g2.2⟩
  · rw [← g1.1]; simp only [World.cell?, h.h1, Nat.zero_add]; exact arrV_at PV hi
  · rw [← g2.1]; simp only [World.cell?, h.h2, Nat.zero_add]; exact arrV_at TV hi
end Go.Proofs.YtnaooocmggnojaaDoor
