/-
  package htb: a tree in memory, what is known of it, and the way from a class up. Nothing of the program is claimed here by itself.
-/
import Derived.Test.YtpgdocmpbeabpaaDoorZt1
import Derived.Test.YtpgdocmpbeabpaaDoorFa
namespace Go.Proofs.YtpgdocmpbeabpaaDoor
open Go.RowKit Go.Extern.Stop Go.Stop Go.Extern

/-- A class. -/
structure HCl where
  par : Int
  rn : Int
  rt : Int
  rR : Int
  cn : Int
  ct : Int
  cR : Int
  pr : Int
/-- What is at a class: its Rate's level and time, its Ceil's, who waits, when it sent last. -/
structure HNd where
  rl : Int
  ra : Int
  cl : Int
  ca : Int
  L : List Hd
  sent : Int
/-- A tree's state, and the latest time that it was asked at. -/
structure HtS where
  nd : Nat → HNd
  gone : Int
  tm : Int
/-- What does not change. -/
structure HtK where
  tb : Nat
  g : Nat
  gcap : Nat
  N : Nat
  room : Int
  cls : Nat → HCl
  inner : Nat → Bool
  nb : Nat → Nat
  rb : Nat → Nat
  cb : Nat → Nat
/-- The class above. -/
def hUp (K : HtK) (i : Nat) : Option Nat := if (K.cls i).par < 0 then none else some (K.cls i).par.toNat
def ndV (K : HtK) : Option Nat → Value
  | none => .pointer none
  | some i => .pointer (some ⟨K.nb i, 0, none⟩)
/-- The cells of a class. -/
def nodeC (K : HtK) (s : HNd) (i : Nat) (wv : Value) : Nat → Value
  | 0 => .int .i64 (K.cls i).par
  | 1 => .int .i64 (K.cls i).rn
  | 2 => .int .i64 (K.cls i).rt
  | 3 => .int .i64 (K.cls i).rR
  | 4 => .int .i64 (K.cls i).cn
  | 5 => .int .i64 (K.cls i).ct
  | 6 => .int .i64 (K.cls i).cR
  | 7 => .int .i64 (K.cls i).pr
  | 8 => ndV K (hUp K i)
  | 9 => .bool (K.inner i)
  | 10 => .pointer (some ⟨K.rb i, 0, none⟩)
  | 11 => .pointer (some ⟨K.cb i, 0, none⟩)
  | 12 => wv
  | 13 => .int .i64 (sumL s.L)
  | _ => .int .i64 s.sent
/-- The tree in memory; ow tells what each block is. -/
structure HtAt (K : HtK) (w : World) (s : HtS) (vs : Nat → Value) (ow : Nat → Nat × Nat) : Prop where
  root : w.heap[K.tb]? = some (.cells #[.int .i64 K.room, .slice (some ⟨K.g, 0, none⟩) K.N K.gcap, .int .i64 s.gone] 68 (0, 0))
  gl : K.g < w.heap.size
  row : ∀ i, i < K.N → w.cell? ⟨K.g, i, none⟩ = some (.pointer (some ⟨K.nb i, 0, none⟩))
  node : ∀ i, i < K.N → LO w (K.nb i) 15 94 (nodeC K (s.nd i) i (vs i)) 12 (vs i) (s.nd i).L
  rate : ∀ i, i < K.N → BkT w (K.rb i) (K.cls i).rn (K.cls i).rt (K.cls i).rR (s.nd i).rl (s.nd i).ra s.tm
  ceil : ∀ i, i < K.N → BkT w (K.cb i) (K.cls i).cn (K.cls i).ct (K.cls i).cR (s.nd i).cl (s.nd i).ca s.tm
  owt : ow K.tb = (0, 0)
  owg : ow K.g = (1, 0)
  own : ∀ i, i < K.N → ow (K.nb i) = (2, i)
  owr : ∀ i, i < K.N → ow (K.rb i) = (3, i)
  owc : ∀ i, i < K.N → ow (K.cb i) = (4, i)
  owv : ∀ i, i < K.N → ∀ k, (vs i).ownBlock = some k → ow k = (5, i)
/-- What is so of the classes. -/
structure HtKOk (K : HtK) : Prop where
  n1 : 1 ≤ K.N
  n16 : K.N ≤ 16
  room : 0 ≤ K.room ∧ K.room ≤ 1000000
  par : ∀ i, i < K.N → -1 ≤ (K.cls i).par ∧ (K.cls i).par < i
  okr : ∀ i, i < K.N → okB (K.cls i).rn (K.cls i).rt (K.cls i).rR
  okc : ∀ i, i < K.N → okB (K.cls i).cn (K.cls i).ct (K.cls i).cR
  pr : ∀ i, i < K.N → 0 ≤ (K.cls i).pr ∧ (K.cls i).pr < 8
theorem HtKOk.up {K : HtK} (h : HtKOk K) {i j : Nat} (hi : i < K.N) (hj : hUp K i = some j) : j < i ∧ (K.cls i).par = (j : Int) := by
  have := h.par i hi
  unfold hUp at hj
  split at hj
  · cases hj
  · have e := Option.some.inj hj
    omega
/-- What is so of the state. -/
structure HtI (K : HtK) (t : Int) (n : Nat) (s : HtS) : Prop where
  tm : s.tm ≤ t
  t0 : 0 ≤ s.tm
  rate : ∀ i, i < K.N → BkOk (K.cls i).rn (K.cls i).rt (K.cls i).rR (s.nd i).rl (s.nd i).ra s.tm
  ceil : ∀ i, i < K.N → BkOk (K.cls i).cn (K.cls i).ct (K.cls i).cR (s.nd i).cl (s.nd i).ca s.tm
  wait : ∀ i, i < K.N → (s.nd i).L.length ≤ n ∧ ∀ x ∈ (s.nd i).L, 0 ≤ x.l ∧ x.l ≤ 10000
  inner : ∀ i, i < K.N → K.inner i = true → (s.nd i).L = []
theorem HtAt.cells {K : HtK} {w : World} {s : HtS} {vs : Nat → Value} {ow : Nat → Nat × Nat} (h : HtAt K w s vs ow) {i : Nat} (hi : i < K.N) : ∀ j, j < 15 → w.cell? ⟨K.nb i, j, none⟩ = some (nodeC K (s.nd i) i (vs i) j) ∧ w.frozen? ⟨K.nb i, j, none⟩ = false := fun _ hj => (h.node i hi).blk.cell hj
/-- Time goes on. -/
theorem HtAt.later {K : HtK} {w : World} {s : HtS} {vs : Nat → Value} {ow : Nat → Nat × Nat} (h : HtAt K w s vs ow) {t : Int} (ht : s.tm ≤ t) : HtAt K w { s with tm := t } vs ow :=
  ⟨h.root, h.gl, h.row, h.node, fun i hi => (h.rate i hi).later ht, fun i hi => (h.ceil i hi).later ht, h.owt, h.owg, h.own, h.owr, h.owc, h.owv⟩
/-- The blocks of a tree. -/
def HtF (K : HtK) (vs : Nat → Value) (k : Nat) : Prop := k = K.tb ∨ k = K.g ∨ ∃ i, i < K.N ∧ (k = K.nb i ∨ k = K.rb i ∨ k = K.cb i ∨ (vs i).ownBlock = some k)
theorem HtAt.kept {K : HtK} {w w' : World} {s : HtS} {vs : Nat → Value} {ow : Nat → Nat × Nat} (h : HtAt K w s vs ow) (hk : ∀ k, HtF K vs k → w'.heap[k]? = w.heap[k]?) : HtAt K w' s vs ow := by
  have hg : w'.heap[K.g]? = w.heap[K.g]? := hk _ (Or.inr (Or.inl rfl))
  have hn : ∀ i, i < K.N → w'.heap[K.nb i]? = w.heap[K.nb i]? := fun i hi => hk _ (Or.inr (Or.inr ⟨i, hi, Or.inl rfl⟩))
  refine ⟨(hk _ (Or.inl rfl)).trans h.root, ?_, fun i hi => ?_, fun i hi => (h.node i hi).kept (hn i hi) (fun k hv => hk k (Or.inr (Or.inr ⟨i, hi, Or.inr (Or.inr (Or.inr hv))⟩))), fun i hi => (h.rate i hi).same (hk _ (Or.inr (Or.inr ⟨i, hi, Or.inr (Or.inl rfl)⟩))), fun i hi => (h.ceil i hi).same (hk _ (Or.inr (Or.inr ⟨i, hi, Or.inr (Or.inr (Or.inl rfl))⟩))), h.owt, h.owg, h.own, h.owr, h.owc, h.owv⟩
  · have h1 := h.gl
    rw [Array.getElem?_eq_getElem h1] at hg
    exact (Array.getElem?_eq_some_iff.1 hg).1
  · rw [← h.row i hi]
    exact World.cell?_of_block (w := w) (a := ⟨K.g, i, none⟩) hg
theorem HtAt.low {K : HtK} {w : World} {s : HtS} {vs : Nat → Value} {ow : Nat → Nat × Nat} (h : HtAt K w s vs ow) : ∀ k, HtF K vs k → k < w.heap.size := by
  rintro k (rfl | rfl | ⟨i, hi, rfl | rfl | rfl | hv⟩)
  · exact lt_of_block h.root
  · exact h.gl
  · exact (h.node i hi).blk.lt
  · exact (h.rate i hi).lt
  · exact (h.ceil i hi).lt
  · exact (h.node i hi).row.lt hv
theorem HtAt.below {K : HtK} {w w' : World} {s : HtS} {vs : Nat → Value} {ow : Nat → Nat × Nat} (h : HtAt K w s vs ow) (hb : Below w.heap.size w w') : HtAt K w' s vs ow := h.kept fun k hk => hb.block k (h.low k hk)
/-- One class is otherwise. -/
def updN (nd : Nat → HNd) (i : Nat) (x : HNd) : Nat → HNd := fun j => if j = i then x else nd j
theorem updN_same (nd : Nat → HNd) (i : Nat) (x : HNd) : updN nd i x i = x := by simp [updN]
theorem updN_ne {nd : Nat → HNd} {i j : Nat} {x : HNd} (h : j ≠ i) : updN nd i x j = nd j := by simp [updN, h]
theorem updN_id (nd : Nat → HNd) (i : Nat) : updN nd i (nd i) = nd := by
  funext j
  unfold updN
  split
  · subst j; rfl
  · rfl
/-- A Rate's state is written. -/
theorem HtAt.rateSet {K : HtK} {w w' : World} {s : HtS} {vs : Nat → Value} {ow : Nat → Nat × Nat} (h : HtAt K w s vs ow) {i : Nat} (hi : i < K.N) {l a : Int} (ho : Ot (· = K.rb i) w w') (hb : BkT w' (K.rb i) (K.cls i).rn (K.cls i).rt (K.cls i).rR l a s.tm) : HtAt K w' { s with nd := updN s.nd i { s.nd i with rl := l, ra := a } } vs ow := by
  have hr := h.owr i hi
  have hot : ∀ k, HtF K vs k → k ≠ K.rb i → w'.heap[k]? = w.heap[k]? := fun k hk hne => ho.block k (h.low k hk) hne
  have ne : ∀ k (c : Nat × Nat), ow k = c → c ≠ (3, i) → k ≠ K.rb i := fun k c h1 h2 e => h2 (h1.symm.trans ((congrArg ow e).trans hr))
  have hg := hot K.g (Or.inr (Or.inl rfl)) (ne _ _ h.owg (by simp))
  have hL : ∀ j, (updN s.nd i { s.nd i with rl := l, ra := a } j).L = (s.nd j).L := fun j => by unfold updN; split <;> (try subst j) <;> rfl
  have hC : ∀ j, nodeC K (updN s.nd i { s.nd i with rl := l, ra := a } j) j (vs j) = nodeC K (s.nd j) j (vs j) := fun j => by
    unfold updN
    split
    · subst j; funext q; unfold nodeC; rfl
    · rfl
  refine ⟨(hot _ (Or.inl rfl) (ne _ _ h.owt (by simp))).trans h.root, by have := ho.size; have := h.gl; omega, fun j hj => ?_, fun j hj => ?_, fun j hj => ?_, fun j hj => ?_, h.owt, h.owg, h.own, h.owr, h.owc, h.owv⟩
  · rw [← h.row j hj]
    exact World.cell?_of_block (w := w) (a := ⟨K.g, j, none⟩) hg
  · show LO w' (K.nb j) 15 _ (nodeC K (updN s.nd i { s.nd i with rl := l, ra := a } j) j (vs j)) 12 (vs j) (updN s.nd i { s.nd i with rl := l, ra := a } j).L
    rw [hC, hL]
    exact (h.node j hj).kept (hot _ (Or.inr (Or.inr ⟨j, hj, Or.inl rfl⟩)) (ne _ _ (h.own j hj) (by simp))) (fun k hv => hot k (Or.inr (Or.inr ⟨j, hj, Or.inr (Or.inr (Or.inr hv))⟩)) (ne _ _ (h.owv j hj k hv) (by simp)))
  · show BkT w' (K.rb j) _ _ _ (updN s.nd i { s.nd i with rl := l, ra := a } j).rl (updN s.nd i { s.nd i with rl := l, ra := a } j).ra s.tm
    by_cases e : j = i
    · subst e; rw [updN_same]; exact hb
    · rw [updN_ne e]
      exact (h.rate j hj).same (hot _ (Or.inr (Or.inr ⟨j, hj, Or.inr (Or.inl rfl)⟩)) (ne _ _ (h.owr j hj) (by simp [e])))
  · show BkT w' (K.cb j) _ _ _ (updN s.nd i { s.nd i with rl := l, ra := a } j).cl (updN s.nd i { s.nd i with rl := l, ra := a } j).ca s.tm
    have e1 : (updN s.nd i { s.nd i with rl := l, ra := a } j).cl = (s.nd j).cl := by unfold updN; split <;> (try subst j) <;> rfl
    have e2 : (updN s.nd i { s.nd i with rl := l, ra := a } j).ca = (s.nd j).ca := by unfold updN; split <;> (try subst j) <;> rfl
    rw [e1, e2]
    exact (h.ceil j hj).same (hot _ (Or.inr (Or.inr ⟨j, hj, Or.inr (Or.inr (Or.inl rfl))⟩)) (ne _ _ (h.owc j hj) (by simp)))
/-- A Ceil's state is written. -/
theorem HtAt.ceilSet {K : HtK} {w w' : World} {s : HtS} {vs : Nat → Value} {ow : Nat → Nat × Nat} (h : HtAt K w s vs ow) {i : Nat} (hi : i < K.N) {l a : Int} (ho : Ot (· = K.cb i) w w') (hb : BkT w' (K.cb i) (K.cls i).cn (K.cls i).ct (K.cls i).cR l a s.tm) : HtAt K w' { s with nd := updN s.nd i { s.nd i with cl := l, ca := a } } vs ow := by
  have hr := h.owc i hi
  have hot : ∀ k, HtF K vs k → k ≠ K.cb i → w'.heap[k]? = w.heap[k]? := fun k hk hne => ho.block k (h.low k hk) hne
  have ne : ∀ k (c : Nat × Nat), ow k = c → c ≠ (4, i) → k ≠ K.cb i := fun k c h1 h2 e => h2 (h1.symm.trans ((congrArg ow e).trans hr))
  have hg := hot K.g (Or.inr (Or.inl rfl)) (ne _ _ h.owg (by simp))
  have hL : ∀ j, (updN s.nd i { s.nd i with cl := l, ca := a } j).L = (s.nd j).L := fun j => by unfold updN; split <;> (try subst j) <;> rfl
  have hC : ∀ j, nodeC K (updN s.nd i { s.nd i with cl := l, ca := a } j) j (vs j) = nodeC K (s.nd j) j (vs j) := fun j => by
    unfold updN
    split
    · subst j; funext q; unfold nodeC; rfl
    · rfl
  refine ⟨(hot _ (Or.inl rfl) (ne _ _ h.owt (by simp))).trans h.root, by have := ho.size; have := h.gl; omega, fun j hj => ?_, fun j hj => ?_, fun j hj => ?_, fun j hj => ?_, h.owt, h.owg, h.own, h.owr, h.owc, h.owv⟩
  · rw [← h.row j hj]
    exact World.cell?_of_block (w := w) (a := ⟨K.g, j, none⟩) hg
  · show LO w' (K.nb j) 15 _ (nodeC K (updN s.nd i { s.nd i with cl := l, ca := a } j) j (vs j)) 12 (vs j) (updN s.nd i { s.nd i with cl := l, ca := a } j).L
    rw [hC, hL]
    exact (h.node j hj).kept (hot _ (Or.inr (Or.inr ⟨j, hj, Or.inl rfl⟩)) (ne _ _ (h.own j hj) (by simp))) (fun k hv => hot k (Or.inr (Or.inr ⟨j, hj, Or.inr (Or.inr (Or.inr hv))⟩)) (ne _ _ (h.owv j hj k hv) (by simp)))
  · show BkT w' (K.rb j) _ _ _ (updN s.nd i { s.nd i with cl := l, ca := a } j).rl (updN s.nd i { s.nd i with cl := l, ca := a } j).ra s.tm
    have e1 : (updN s.nd i { s.nd i with cl := l, ca := a } j).rl = (s.nd j).rl := by unfold updN; split <;> (try subst j) <;> rfl
    have e2 : (updN s.nd i { s.nd i with cl := l, ca := a } j).ra = (s.nd j).ra := by unfold updN; split <;> (try subst j) <;> rfl
    rw [e1, e2]
    exact (h.rate j hj).same (hot _ (Or.inr (Or.inr ⟨j, hj, Or.inr (Or.inl rfl)⟩)) (ne _ _ (h.owr j hj) (by simp)))
  · show BkT w' (K.cb j) _ _ _ (updN s.nd i { s.nd i with cl := l, ca := a } j).cl (updN s.nd i { s.nd i with cl := l, ca := a } j).ca s.tm
    by_cases e : j = i
    · subst e; rw [updN_same]; exact hb
    · rw [updN_ne e]
      exact (h.ceil j hj).same (hot _ (Or.inr (Or.inr ⟨j, hj, Or.inr (Or.inr (Or.inl rfl))⟩)) (ne _ _ (h.owc j hj) (by simp [e])))
/-- The way from a class up. -/
def hPath (K : HtK) : Nat → Nat → List Nat
  | 0, _ => []
  | f + 1, i => i :: match hUp K i with
    | none => []
    | some j => hPath K f j
theorem hPath_fuel {K : HtK} (h : HtKOk K) : ∀ (i f f' : Nat), i < K.N → i < f → i < f' → hPath K f i = hPath K f' i := by
  intro i
  induction i using Nat.strongRecOn with
  | ind i ih =>
    intro f f' hi hf hf'
    obtain ⟨f, rfl⟩ : ∃ q, f = q + 1 := ⟨f - 1, by omega⟩
    obtain ⟨f', rfl⟩ : ∃ q, f' = q + 1 := ⟨f' - 1, by omega⟩
    simp only [hPath]
    cases hu : hUp K i with
    | none => rfl
    | some j =>
      have hj := (h.up hi hu).1
      simp only
      rw [ih j hj f f' (by omega) (by omega) (by omega)]
def hL (K : HtK) : Option Nat → List Nat
  | none => []
  | some i => hPath K (i + 1) i
theorem hL_some {K : HtK} (h : HtKOk K) {i : Nat} (hi : i < K.N) : hL K (some i) = i :: hL K (hUp K i) := by
  show hPath K (i + 1) i = _
  simp only [hPath]
  cases hu : hUp K i with
  | none => rfl
  | some j =>
    have hj := (h.up hi hu).1
    show i :: hPath K i j = i :: hPath K (j + 1) j
    rw [hPath_fuel h j i (j + 1) (by omega) hj (by omega)]
def oIdx : Option Nat → Nat
  | none => 0
  | some i => i + 1
theorem oIdx_up {K : HtK} (h : HtKOk K) {i : Nat} (hi : i < K.N) : oIdx (hUp K i) < oIdx (some i) ∧ ∀ j, hUp K i = some j → j < K.N := by
  cases hu : hUp K i with
  | none => exact ⟨by show 0 < i + 1; omega, fun j hj => by cases hj⟩
  | some j =>
    have hj := (h.up hi hu).1
    exact ⟨by show j + 1 < i + 1; omega, fun q hq => by cases hq; omega⟩
end Go.Proofs.YtpgdocmpbeabpaaDoor
