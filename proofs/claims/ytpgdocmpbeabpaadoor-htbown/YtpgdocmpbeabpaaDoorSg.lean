/-
  Slices of the call's own that begin anywhere in their block: what they hold, cut at either end, appended to. Nothing of the program is claimed here by itself.
-/
import Derived.Test.YtpgdocmpbeabpaaDoorProg
import Derived.WalkKit
import Derived.RowKitTokens
import Derived.ArgAppend
import Derived.Deep.QuietTactic
import Derived.BigQuiet
import Derived.Deep.RegionHeld3
import Derived.Deep.RegionWith
import Derived.Deep.DeepCutAuto
import Derived.Deep.CutBlock
import Derived.Shelf.Abstract
import Derived.Deep.Upon
import Derived.Deep.RegionLaw
namespace Go.Proofs.YtpgdocmpbeabpaaDoor
open Go.RowKit Go.Extern.Stop Go.Stop Go.Extern

/-! ### Of what was there all is as it was, but blocks of S -/
structure Ot (S : Nat → Prop) (w w' : World) : Prop where
  os : w'.os = w.os
  tape : w'.tape = w.tape
  output : w'.output = w.output
  size : w.heap.size ≤ w'.heap.size
  block : ∀ k, k < w.heap.size → ¬ S k → w'.heap[k]? = w.heap[k]?
theorem Ot.refl (S : Nat → Prop) (w : World) : Ot S w w := ⟨rfl, rfl, rfl, Nat.le_refl _, fun _ _ _ => rfl⟩
theorem Ot.trans {S : Nat → Prop} {a b c : World} (h : Ot S a b) (k : Ot S b c) : Ot S a c :=
  ⟨k.os.trans h.os, k.tape.trans h.tape, k.output.trans h.output, Nat.le_trans h.size k.size, fun i hi hs => (k.block i (Nat.lt_of_lt_of_le hi h.size) hs).trans (h.block i hi hs)⟩
/-- Blocks that were not there yet at first may turn too. -/
theorem Ot.trans' {S T : Nat → Prop} {a b c : World} (h : Ot S a b) (k : Ot T b c) (hT : ∀ i, T i → i < a.heap.size → S i) : Ot S a c :=
  ⟨k.os.trans h.os, k.tape.trans h.tape, k.output.trans h.output, Nat.le_trans h.size k.size, fun i hi hs => (k.block i (Nat.lt_of_lt_of_le hi h.size) (fun t => hs (hT i t hi))).trans (h.block i hi hs)⟩
theorem Ot.alloc {S : Nat → Prop} {a w : World} (h : Ot S a w) (o : Obj) : Ot S a (w.alloc o) :=
  h.trans ⟨rfl, rfl, rfl, by simp, fun k hk _ => Below.heap_alloc _ _ _ hk⟩
theorem Ot.setCell {S : Nat → Prop} {a w : World} (h : Ot S a w) {p : Addr} (hp : S p.block ∨ a.heap.size ≤ p.block) (u : Value) : Ot S a (w.setCell p u) := by
  refine ⟨h.os, h.tape, h.output, by have := h.size; simpa [World.setCell] using this, fun k hk hs => ?_⟩
  rw [Below.heap_setCell _ _ _ _ (fun e => ?_)]
  · exact h.block k hk hs
  · rcases hp with hp | hp
    · exact hs (e ▸ hp)
    · omega
theorem Ot.drewN {S : Nat → Prop} {a w : World} (h : Ot S a w) (n : Nat) : Ot S a (w.drewN n) := h.trans ⟨rfl, rfl, rfl, Nat.le_refl _, fun _ _ _ => rfl⟩
theorem Ot.drew {S : Nat → Prop} {a w : World} (h : Ot S a w) : Ot S a w.drew := h.trans ⟨rfl, rfl, rfl, Nat.le_refl _, fun _ _ _ => rfl⟩
theorem Ot.of_below {S : Nat → Prop} {w w' : World} (h : Below w.heap.size w w') : Ot S w w' := ⟨h.os, h.tape, h.output, h.size, fun k hk _ => h.block k hk⟩
theorem Ot.below {S : Nat → Prop} {w w' : World} (h : Ot S w w') {B : Nat} (hB : B ≤ w.heap.size) (hS : ∀ k, S k → B ≤ k) : Below B w w' := ⟨h.os, h.tape, h.output, h.size, fun k hk => h.block k (by omega) (fun hs => by have := hS k hs; omega)⟩
theorem Ot.then_below {S : Nat → Prop} {w a b : World} (h : Ot S w a) (k : Below w.heap.size a b) : Ot S w b := ⟨k.os.trans h.os, k.tape.trans h.tape, k.output.trans h.output, Nat.le_trans h.size k.size, fun i hi hs => (k.block i hi).trans (h.block i hi hs)⟩
theorem Ot.mono {S T : Nat → Prop} {w w' : World} (h : Ot S w w') (hST : ∀ k, k < w.heap.size → S k → T k) : Ot T w w' := ⟨h.os, h.tape, h.output, h.size, fun k hk hs => h.block k hk (fun x => hs (hST k hk x))⟩
theorem Ot.cell {S : Nat → Prop} {w w' : World} (h : Ot S w w') {p : Addr} (hp : p.block < w.heap.size) (hs : ¬ S p.block) : w'.cell? p = w.cell? p := World.cell?_of_block (w := w) (h.block p.block hp hs)
theorem Ot.grown {S : Nat → Prop} {a w w' : World} {row : Option Nat} (h : Ot S a w) (hg : w.grownBy w' row) (hr : ∀ k, row = some k → S k ∨ a.heap.size ≤ k) : Ot S a w' :=
  ⟨hg.os.trans h.os, hg.tape.trans h.tape, hg.output.trans h.output, Nat.le_trans h.size hg.size, fun k hk hs => (hg.block k (Nat.lt_of_lt_of_le hk h.size) (fun e => by rcases hr k e.symm with h' | h'; exact hs h'; omega)).trans (h.block k hk hs)⟩

theorem below_alloc_ {a w : World} (h : Below a.heap.size a w) (o : Obj) : Below a.heap.size a (w.alloc o) := h.alloc h.size o
theorem below_set_ {a w : World} (h : Below a.heap.size a w) {p : Addr} (hp : a.heap.size ≤ p.block) (u : Value) : Below a.heap.size a (w.setCell p u) := h.setCell hp u
theorem below_grown_ {a w w' : World} {row : Option Nat} (h : Below a.heap.size a w) (hg : w.grownBy w' row) (hr : ∀ k, row = some k → a.heap.size ≤ k) : Below a.heap.size a w' := h.grown hg h.size hr
theorem news_of {w : World} {B : Nat} {l : List Value} {t : TypeId} {fr : Nat × Nat} (hb : w.heap[B]? = some (.cells l.toArray t fr)) : ∀ j u, l[j]? = some u → w.cell? ((⟨B, 0, none⟩ : Addr).add j) = some u := fun j u hu => by
  have hadd : (⟨B, 0, none⟩ : Addr).add j = ⟨B, j, none⟩ := by unfold Addr.add; split <;> simp_all
  rw [hadd]
  simp only [World.cell?, hb]
  simpa using hu
theorem new_block (w : World) (o : Obj) : (w.alloc o).heap[w.heap.size]? = some o := heap_alloc_new w o

theorem new_block_ {w : World} {o : Obj} {n : Nat} (h : n = w.heap.size) : (w.alloc o).heap[n]? = some o := by subst h; exact heap_alloc_new w o

/-! ### Slices -/
/-- v is a slice of n elements (k cells each, of type e); xs are its cells, in a block of the call's own. -/
def Seg (w : World) (e : TypeId) (k : Nat) (v : Value) (n : Nat) (xs : List Value) : Prop :=
  xs.length = n * k ∧ ((v = .slice none 0 0 ∧ n = 0) ∨ ∃ b off cap cur, v = .slice (some ⟨b, off, none⟩) n cap ∧ w.heap[b]? = some (.cells cur e (0, 0)) ∧ n ≤ cap ∧ cap ≤ maxLen ∧ off + cap * k ≤ cur.size ∧ ∀ j u, xs[j]? = some u → cur[off + j]? = some u)
theorem Seg.nil (w : World) (e : TypeId) (k : Nat) : Seg w e k (.slice none 0 0) 0 [] := ⟨by simp, Or.inl ⟨rfl, rfl⟩⟩
theorem Seg.kept {w w' : World} {e : TypeId} {k : Nat} {v : Value} {n : Nat} {xs : List Value} (h : Seg w e k v n xs) (hk : ∀ b, v.ownBlock = some b → w'.heap[b]? = w.heap[b]?) : Seg w' e k v n xs := by
  refine ⟨h.1, ?_⟩
  rcases h.2 with h | ⟨b, off, cap, cur, rfl, hb, rest⟩
  · exact Or.inl h
  · exact Or.inr ⟨b, off, cap, cur, rfl, (hk b rfl).trans hb, rest⟩
theorem Seg.lt {w : World} {e : TypeId} {k : Nat} {v : Value} {n : Nat} {xs : List Value} (h : Seg w e k v n xs) {b : Nat} (hb : v.ownBlock = some b) : b < w.heap.size := by
  rcases h.2 with ⟨rfl, _⟩ | ⟨b', off, cap, cur, rfl, hh, _⟩
  · simp [Value.ownBlock] at hb
  · simp [Value.ownBlock] at hb
    subst hb
    exact lt_of_block hh
theorem Seg.ty {w : World} {e : TypeId} {k : Nat} {v : Value} {n : Nat} {xs : List Value} (h : Seg w e k v n xs) {b : Nat} (hb : v.ownBlock = some b) : ∃ cur, w.heap[b]? = some (.cells cur e (0, 0)) := by
  rcases h.2 with ⟨rfl, _⟩ | ⟨b', off, cap, cur, rfl, hh, _⟩
  · simp [Value.ownBlock] at hb
  · simp [Value.ownBlock] at hb
    subst hb
    exact ⟨cur, hh⟩
theorem Seg.below {w w' : World} {e : TypeId} {k : Nat} {v : Value} {n : Nat} {xs : List Value} (h : Seg w e k v n xs) (hb : Below w.heap.size w w') : Seg w' e k v n xs := h.kept fun b hv => hb.block b (h.lt hv)
theorem Seg.oth {w w' : World} {S : Nat → Prop} {e : TypeId} {k : Nat} {v : Value} {n : Nat} {xs : List Value} (h : Seg w e k v n xs) (hb : Ot S w w') (hS : ∀ b, v.ownBlock = some b → ¬ S b) : Seg w' e k v n xs := h.kept fun b hv => hb.block b (h.lt hv) (hS b hv)
theorem Seg.alloc {w : World} {e : TypeId} {k : Nat} {v : Value} {n : Nat} {xs : List Value} (h : Seg w e k v n xs) (o : Obj) : Seg (w.alloc o) e k v n xs := h.kept fun b hv => Below.heap_alloc w o b (h.lt hv)
theorem Seg.setCell {w : World} {e : TypeId} {k : Nat} {v : Value} {n : Nat} {xs : List Value} (h : Seg w e k v n xs) {p : Addr} (hp : v.ownBlock ≠ some p.block) (u : Value) : Seg (w.setCell p u) e k v n xs := h.kept fun b hv => Below.heap_setCell _ _ _ _ (fun e => hp (by rw [hv, e]))
theorem Seg.drewN {w : World} {e : TypeId} {k : Nat} {v : Value} {n : Nat} {xs : List Value} (h : Seg w e k v n xs) (q : Nat) : Seg (w.drewN q) e k v n xs := h
theorem Seg.form {w : World} {e : TypeId} {k : Nat} {v : Value} {n : Nat} {xs : List Value} (h : Seg w e k v n xs) : (v = .slice none 0 0 ∧ n = 0 ∧ xs = []) ∨ ∃ b off cap, v = .slice (some ⟨b, off, none⟩) n cap ∧ n ≤ cap ∧ cap ≤ maxLen ∧ b < w.heap.size ∧ (∀ j u, xs[j]? = some u → w.cell? ⟨b, off + j, none⟩ = some u) := by
  rcases h.2 with ⟨rfl, h0⟩ | ⟨b, off, cap, cur, rfl, hh, h1, h2, h3, h4⟩
  · refine Or.inl ⟨rfl, h0, ?_⟩
    have := h.1
    rw [h0, Nat.zero_mul] at this
    exact List.eq_nil_of_length_eq_zero this
  · refine Or.inr ⟨b, off, cap, rfl, h1, h2, lt_of_block hh, fun j u hj => ?_⟩
    simp only [World.cell?, hh]
    exact h4 j u hj
theorem Seg.some {w : World} {e : TypeId} {k : Nat} {v : Value} {n : Nat} {xs : List Value} (h : Seg w e k v n xs) (hn : 0 < n) : ∃ b off cap, v = .slice (Option.some ⟨b, off, none⟩) n cap ∧ n ≤ cap ∧ cap ≤ maxLen ∧ b < w.heap.size ∧ (∀ j u, xs[j]? = Option.some u → w.cell? ⟨b, off + j, none⟩ = Option.some u) := by
  rcases h.form with ⟨_, h0, _⟩ | h
  · omega
  · exact h
/-- Its end, from its m-th element on. -/
theorem Seg.drop {w : World} {e : TypeId} {k n cap b off : Nat} {xs : List Value} (h : Seg w e k (.slice (Option.some ⟨b, off, none⟩) n cap) n xs) {m : Nat} (hm : m ≤ n) (off' : Nat) (ho : off' = off + m * k ∨ cap = m ∧ off' = off) : Seg w e k (.slice (Option.some ⟨b, off', none⟩) (n - m) (cap - m)) (n - m) (xs.drop (m * k)) := by
  rcases h.2 with ⟨hv, _⟩ | ⟨b', o', c', cur, hv, hh, h1, h2, h3, h4⟩
  · simp at hv
  · simp only [Value.slice.injEq, Option.some.injEq, Addr.mk.injEq, and_true, true_and] at hv
    obtain ⟨⟨rfl, rfl⟩, rfl⟩ := hv
    have hl := h.1
    have hmk : m * k + (cap - m) * k = cap * k := by rw [← Nat.add_mul]; congr 1; omega
    refine ⟨by rw [List.length_drop, hl, Nat.sub_mul], Or.inr ⟨b, off', cap - m, cur, rfl, hh, by omega, by omega, ?_, ?_⟩⟩
    · rcases ho with rfl | ⟨rfl, rfl⟩ <;> omega
    · intro j u hj
      rw [List.getElem?_drop] at hj
      have h5 := h4 _ _ hj
      rcases ho with rfl | ⟨rfl, rfl⟩
      · rwa [← Nat.add_assoc] at h5
      · have h6 := (List.getElem?_eq_some_iff.1 hj).1
        rw [hl] at h6
        have : n * k ≤ cap * k := Nat.mul_le_mul_right k h1
        omega
/-- Its first m elements. -/
theorem Seg.take {w : World} {e : TypeId} {k n cap b off : Nat} {xs : List Value} (h : Seg w e k (.slice (Option.some ⟨b, off, none⟩) n cap) n xs) {m : Nat} (hm : m ≤ n) : Seg w e k (.slice (Option.some ⟨b, off, none⟩) m cap) m (xs.take (m * k)) := by
  rcases h.2 with ⟨hv, _⟩ | ⟨b', o', c', cur, hv, hh, h1, h2, h3, h4⟩
  · simp at hv
  · simp only [Value.slice.injEq, Option.some.injEq, Addr.mk.injEq, and_true, true_and] at hv
    obtain ⟨⟨rfl, rfl⟩, rfl⟩ := hv
    have hl := h.1
    have : m * k ≤ n * k := Nat.mul_le_mul_right k hm
    refine ⟨by rw [List.length_take, hl]; omega, Or.inr ⟨b, off, cap, cur, rfl, hh, by omega, h2, h3, ?_⟩⟩
    intro j u hj
    rw [List.getElem?_take] at hj
    split at hj
    · exact h4 j u hj
    · simp at hj
/-- A row of the call's own is such a slice. -/
theorem Seg.of_owns {w : World} {base : Nat} {e : TypeId} {k : Nat} {v : Value} {n : Nat} {xs : List Value} (h : w.ownsRow base e k v n xs) : Seg w e k v n xs := by
  refine ⟨h.1, ?_⟩
  rcases h.2 with h | ⟨g, cap, cur, rfl, hg, hh, h1, h2, h3, h4⟩
  · exact Or.inl h
  · refine Or.inr ⟨g, 0, cap, cur, rfl, hh, h1, h2, by omega, fun j u hj => ?_⟩
    rw [← h4, List.getElem?_take] at hj
    split at hj
    · simpa using hj
    · simp at hj

theorem heap_setCell_here {w : World} {b o : Nat} {cur : Array Value} {e : TypeId} {fr : Nat × Nat} (h : w.heap[b]? = some (.cells cur e fr)) (u : Value) : (w.setCell ⟨b, o, none⟩ u).heap[b]? = some (.cells (cur.setIfInBounds o u) e fr) := by
  have hlt := lt_of_block h
  have h' : w.heap[b] = .cells cur e fr := by simpa [Array.getElem?_eq_getElem hlt] using h
  show (w.heap.modify b _)[b]? = _
  rw [Array.getElem?_eq_getElem (by simpa using hlt), Array.getElem_modify_self, h']
  rfl
theorem heap_setCells_here {b : Nat} {e : TypeId} {fr : Nat × Nat} : ∀ (vs : List Value) (o : Nat) (w : World) (cur : Array Value), w.heap[b]? = some (.cells cur e fr) → o + vs.length ≤ cur.size → ∃ cur', (w.setCells b o vs).heap[b]? = some (.cells cur' e fr) ∧ cur'.size = cur.size ∧ (∀ i, i < o ∨ o + vs.length ≤ i → cur'[i]? = cur[i]?) ∧ ∀ j u, vs[j]? = some u → cur'[o + j]? = some u := by
  intro vs
  induction vs with
  | nil => intro o w cur h _; exact ⟨cur, h, rfl, fun _ _ => rfl, fun j u hj => by simp at hj⟩
  | cons v r ih =>
    intro o w cur h hs
    simp only [List.length_cons] at hs
    obtain ⟨cur', h1, h2, h3, h4⟩ := ih (o + 1) _ _ (heap_setCell_here h (o := o) v) (by simp; omega)
    refine ⟨cur', h1, by simpa using h2, ?_, ?_⟩
    · intro i hi
      simp only [List.length_cons] at hi
      rw [h3 i (by omega), Array.getElem?_setIfInBounds, if_neg (by omega)]
    · intro j u hj
      cases j with
      | zero =>
        simp only [List.getElem?_cons_zero, Option.some.injEq] at hj
        subst hj
        rw [Nat.add_zero, h3 o (by omega), Array.getElem?_setIfInBounds, if_pos rfl, if_pos (by omega)]
      | succ j =>
        have := h4 j u (by simpa using hj)
        rwa [show o + 1 + j = o + (j + 1) by omega] at this
theorem setCells_streams (b : Nat) : ∀ (vs : List Value) (o : Nat) (w : World), (w.setCells b o vs).os = w.os ∧ (w.setCells b o vs).tape = w.tape ∧ (w.setCells b o vs).output = w.output ∧ (w.setCells b o vs).heap.size = w.heap.size := by
  intro vs
  induction vs with
  | nil => intro o w; exact ⟨rfl, rfl, rfl, rfl⟩
  | cons v r ih =>
    intro o w
    obtain ⟨h1, h2, h3, h4⟩ := ih (o + 1) (w.setCell ⟨b, o, none⟩ v)
    exact ⟨h1, h2, h3, h4.trans (by simp [World.setCell])⟩
theorem grownBy_setCells {w : World} {b o : Nat} {vs : List Value} : w.grownBy (w.setCells b o vs) (some b) := by
  obtain ⟨h1, h2, h3, h4⟩ := setCells_streams b vs o w
  exact ⟨h1, h2, h3, by omega, fun k hk hne => World.heap_setCells_other w b o vs hk (by simpa using hne)⟩

/-- append. -/
theorem run_append_seg {P : Program} (w : World) (t ty e : TypeId) (i : TypeInfo) (z : Value) (k bytes : Nat) (ht : P.underlying t = some (.slice e)) (hi : P.info? e = some i) (hz : i.zero = some z)
    (hsize : i.size = k) (hby : i.bytes = bytes) (hzs : z.cells.size = k) (hsz : 0 < k)
    (v : Value) (n : Nat) (xs : List Value) (hown : Seg w e k v n xs)
    (ad : Addr) (m c : Nat) (news : List Value) (hl : news.length = m * k) (hnews : ∀ j u, news[j]? = some u → w.cell? (ad.add j) = some u) (h1 : ∀ u ∈ news, u.oneCell' = true)
    (hm : 0 < m) (h63 : n + m ≤ maxLen) (hbytes : (n + m) * bytes ≤ 140737488355328) (H : Nat) (hH : w.heap.size = H) :
    ∃ g off cap w', (Builtin.append_ #[t, t] ty #[v, .slice (some ad) m c]).run P w = .ok (.slice (some ⟨g, off, none⟩) (n + m) cap) w' ∧
      Seg w' e k (.slice (some ⟨g, off, none⟩) (n + m) cap) (n + m) (xs ++ news) ∧ w.grownBy w' v.ownBlock ∧ (v.ownBlock = some g ∨ H ≤ g) ∧ g < w'.heap.size := by
  rcases hown.2 with ⟨rfl, h0⟩ | ⟨b, off, cap, cur, rfl, hb, hn, hx, hs, hc⟩
  · subst h0
    have hxs : xs = [] := List.eq_nil_of_length_eq_zero (by simpa using hown.1)
    subst hxs
    obtain ⟨v', w', hr, h2, h3, _⟩ := run_append_own (P := P) w w.heap.size t ty e i z k bytes ht hi hz hsize hby hzs hsz (.slice none 0 0) 0 [] (World.ownsRow_nil w _ e k) ad m c news hl hnews h1 h63 hbytes (Nat.le_refl _)
    rcases h2.2 with ⟨_, h0⟩ | ⟨g, cap, cur, rfl, hg, hh, _⟩
    · omega
    exact ⟨g, 0, cap, w', hr, Seg.of_owns h2, h3, Or.inr (by omega), lt_of_block hh⟩
  · by_cases hr : n + m ≤ cap
    · have hmk : n * k + m * k ≤ cap * k := by rw [← Nat.add_mul]; exact Nat.mul_le_mul_right k hr
      have hcell : ∀ j, j < news.length → (w.cell? ⟨b, off + n * i.size + j, none⟩).isSome = true ∧ w.frozen? ⟨b, off + n * i.size + j, none⟩ = false := by
        intro j hj
        rw [hl] at hj
        rw [hsize]
        refine ⟨?_, by simp [World.frozen?, hb]⟩
        simp only [World.cell?, hb]
        rw [Array.getElem?_eq_getElem (by omega)]
        rfl
      have hrun := run_append_room_cells (P := P) w t ty e i ht hi b off n cap ad m c news (by rw [hsize]; exact hl) hnews h1 hr (fun j hj => (hcell j hj).1) (fun j hj => (hcell j hj).2)
      refine ⟨b, off, cap, _, hrun, ⟨by rw [List.length_append, hown.1, hl, Nat.add_mul], Or.inr ?_⟩, grownBy_setCells, Or.inl rfl, ?_⟩
      · obtain ⟨cur', k1, k2, k3, k4⟩ := heap_setCells_here (w := w) news (off + n * i.size) cur hb (by rw [hsize, hl]; omega)
        refine ⟨b, off, cap, cur', rfl, k1, hr, hx, by omega, fun j u hj => ?_⟩
        rw [hsize] at k3 k4
        by_cases hjl : j < n * k
        · rw [k3 _ (Or.inl (by omega))]
          exact hc j u (by rwa [List.getElem?_append_left (by rw [hown.1]; exact hjl)] at hj)
        · rw [List.getElem?_append_right (by rw [hown.1]; omega), hown.1] at hj
          have := k4 _ _ hj
          rwa [show off + n * k + (j - n * k) = off + j by omega] at this
      · rw [(setCells_streams b _ _ w).2.2.2]; exact lt_of_block hb
    · obtain ⟨v', w', hrun, r1, r2⟩ := run_append_arg_grows (P := P) w t ty e i z k bytes ht hi hz hsize hby hzs hsz ⟨b, off, none⟩ n cap xs hown.1 (fun j u hj => by rw [Addr.add_lit]; simp only [World.cell?, hb]; exact hc j u hj) ad m c news hl hnews (by omega) h63 hbytes
      rcases r1.2 with ⟨_, h0⟩ | ⟨g, cap', cur', rfl, hg, hh, _⟩
      · omega
      refine ⟨g, 0, cap', w', hrun, Seg.of_owns r1, ⟨r2.os, r2.tape, r2.output, r2.size, fun q hq _ => r2.block q hq (by simp)⟩, ?_, lt_of_block hh⟩
      right
      omega
/-- At the operation. -/
theorem wp_append_seg {P : Program} (w : World) {o : Oper} {a : Act} {K : Act → World → Prop} {Q : Exit → Act → World → Prop} (s x : Operand) (t : TypeId)
    (ho : o.op = .call { callee := .builtin .append, args := #[s, x], argTypes := #[t, t] })
    (e : TypeId) (i : TypeInfo) (z : Value) (k bytes : Nat) (ht : P.underlying t = some (.slice e)) (hi : P.info? e = some i) (hz : i.zero = some z)
    (hsize : i.size = k) (hby : i.bytes = bytes) (hzs : z.cells.size = k) (hsz : 0 < k)
    (v : Value) (n : Nat) (xs : List Value) (hs : a.eval s = v) (hown : Seg w e k v n xs)
    (ad : Addr) (m c : Nat) (news : List Value) (hx : a.eval x = .slice (some ad) m c) (hl : news.length = m * k) (hnews : ∀ j u, news[j]? = some u → w.cell? (ad.add j) = some u) (h1 : ∀ u ∈ news, u.oneCell' = true)
    (hm : 0 < m) (h63 : n + m ≤ maxLen) (hbytes : (n + m) * bytes ≤ 140737488355328) (H : Nat) (hH : w.heap.size = H)
    (h : ∀ g off cap w', Seg w' e k (.slice (some ⟨g, off, none⟩) (n + m) cap) (n + m) (xs ++ news) → w.grownBy w' v.ownBlock → (v.ownBlock = some g ∨ H ≤ g) → g < w'.heap.size → K (a.put o.dst (.slice (some ⟨g, off, none⟩) (n + m) cap)) w') : o.wp P a w K Q := by
  obtain ⟨g, off, cap, w', hr, h2, h3, h4, h5⟩ := run_append_seg (P := P) w t o.type e i z k bytes ht hi hz hsize hby hzs hsz v n xs hown ad m c news hl hnews h1 hm h63 hbytes H hH
  unfold Oper.wp execOp
  simp only [ho, resolve, invoke, builtin, Sem.run_bind, Sem.run_pure, Result.andThen_ok, List.map_toArray, List.map_cons, List.map_nil, hs, hx, hr]
  exact h g off cap w' h2 h3 h4 h5
theorem wpList_append_seg {P : Program} (w : World) {ops : Array Oper} {rest : List Oper} {o : Oper} {a : Act} {Q : Exit → Act → World → Prop} (hgd : o.guard = none) (s x : Operand) (t : TypeId)
    (ho : o.op = .call { callee := .builtin .append, args := #[s, x], argTypes := #[t, t] })
    (e : TypeId) (i : TypeInfo) (z : Value) (k bytes : Nat) (ht : P.underlying t = some (.slice e)) (hi : P.info? e = some i) (hz : i.zero = some z)
    (hsize : i.size = k) (hby : i.bytes = bytes) (hzs : z.cells.size = k) (hsz : 0 < k)
    (v : Value) (n : Nat) (xs : List Value) (hs : a.eval s = v) (hown : Seg w e k v n xs)
    (ad : Addr) (m c : Nat) (news : List Value) (hx : a.eval x = .slice (some ad) m c) (hl : news.length = m * k) (hnews : ∀ j u, news[j]? = some u → w.cell? (ad.add j) = some u) (h1 : ∀ u ∈ news, u.oneCell' = true)
    (hm : 0 < m) (h63 : n + m ≤ maxLen) (hbytes : (n + m) * bytes ≤ 140737488355328) (H : Nat) (hH : w.heap.size = H)
    (h : ∀ g off cap w', Seg w' e k (.slice (some ⟨g, off, none⟩) (n + m) cap) (n + m) (xs ++ news) → w.grownBy w' v.ownBlock → (v.ownBlock = some g ∨ H ≤ g) → g < w'.heap.size → wpList P ops Q rest (a.put o.dst (.slice (some ⟨g, off, none⟩) (n + m) cap)) w') : wpList P ops Q (o :: rest) a w :=
  wpList_plain hgd fun _ hK => wp_append_seg w s x t ho e i z k bytes ht hi hz hsize hby hzs hsz v n xs hs hown ad m c news hx hl hnews h1 hm h63 hbytes H hH fun g off cap w' h2 h3 h4 h5 => hK _ _ (h g off cap w' h2 h3 h4 h5)
theorem step_append_seg {P : Program} (w : World) {ops : Array Oper} {o : Oper} {a : Act} {K : Act → World → Prop} {Q : Exit → Act → World → Prop} {E : Prop} (hgd : o.guard = none) (s x : Operand) (t : TypeId)
    (ho : o.op = .call { callee := .builtin .append, args := #[s, x], argTypes := #[t, t] })
    (e : TypeId) (i : TypeInfo) (z : Value) (k bytes : Nat) (ht : P.underlying t = some (.slice e)) (hi : P.info? e = some i) (hz : i.zero = some z)
    (hsize : i.size = k) (hby : i.bytes = bytes) (hzs : z.cells.size = k) (hsz : 0 < k)
    (v : Value) (n : Nat) (xs : List Value) (hs : a.eval s = v) (hown : Seg w e k v n xs)
    (ad : Addr) (m c : Nat) (news : List Value) (hx : a.eval x = .slice (some ad) m c) (hl : news.length = m * k) (hnews : ∀ j u, news[j]? = some u → w.cell? (ad.add j) = some u) (h1 : ∀ u ∈ news, u.oneCell' = true)
    (hm : 0 < m) (h63 : n + m ≤ maxLen) (hbytes : (n + m) * bytes ≤ 140737488355328) (H : Nat) (hH : w.heap.size = H)
    (h : ∀ g off cap w', Seg w' e k (.slice (some ⟨g, off, none⟩) (n + m) cap) (n + m) (xs ++ news) → w.grownBy w' v.ownBlock → (v.ownBlock = some g ∨ H ≤ g) → g < w'.heap.size → K (a.put o.dst (.slice (some ⟨g, off, none⟩) (n + m) cap)) w') :
    if Region.wanted o (yielded ops a.tmps) = true then Oper.wp P o a w K Q else E := by
  have hw : Region.wanted o (yielded ops a.tmps) = true := by simp [Region.wanted, hgd]
  rw [if_pos hw]
  exact wp_append_seg w s x t ho e i z k bytes ht hi hz hsize hby hzs hsz v n xs hs hown ad m c news hx hl hnews h1 hm h63 hbytes H hH h

/-! ### Elements of k cells -/
section
variable {α : Type} (cs : α → List Value) (k : Nat)
/-- The cells of elements, one behind the other. -/
def flt (xs : List α) : List Value := xs.flatMap cs
theorem flt_nil : flt cs [] = [] := rfl
theorem flt_cons (x : α) (xs : List α) : flt cs (x :: xs) = cs x ++ flt cs xs := by simp [flt]
theorem flt_append (xs ys : List α) : flt cs (xs ++ ys) = flt cs xs ++ flt cs ys := by simp [flt]
theorem flt_one (x : α) : flt cs [x] = cs x := by simp [flt]
theorem flt_length (hk : ∀ x, (cs x).length = k) (xs : List α) : (flt cs xs).length = xs.length * k := by
  induction xs with
  | nil => simp [flt]
  | cons x xs ih => rw [flt_cons, List.length_append, ih, hk]; simp [Nat.add_mul]; omega
theorem flt_drop (hk : ∀ x, (cs x).length = k) (m : Nat) : ∀ (xs : List α), (flt cs xs).drop (m * k) = flt cs (xs.drop m) := by
  induction m with
  | zero => intro xs; simp
  | succ m ih =>
    intro xs
    cases xs with
    | nil => simp [flt]
    | cons x xs =>
      rw [flt_cons, List.drop_succ_cons, ← ih xs, List.drop_append, hk]
      rw [List.drop_eq_nil_of_le (by rw [hk, Nat.add_mul]; omega), List.nil_append]
      congr 1
      rw [Nat.add_mul]; omega
theorem flt_take (hk : ∀ x, (cs x).length = k) (m : Nat) : ∀ (xs : List α), (flt cs xs).take (m * k) = flt cs (xs.take m) := by
  induction m with
  | zero => intro xs; simp [flt]
  | succ m ih =>
    intro xs
    cases xs with
    | nil => simp [flt]
    | cons x xs =>
      rw [flt_cons, List.take_succ_cons, flt_cons, ← ih xs, List.take_append, hk]
      rw [List.take_of_length_le (by rw [hk, Nat.add_mul]; omega)]
      congr 2
      rw [Nat.add_mul]; omega
theorem flt_at (hk : ∀ x, (cs x).length = k) {xs : List α} {i : Nat} {x : α} (hx : xs[i]? = some x) {j : Nat} (hj : j < k) : (flt cs xs)[i * k + j]? = (cs x)[j]? := by
  have h1 := flt_drop cs k hk i xs
  rw [← List.getElem?_drop, h1]
  have h2 : xs.drop i = x :: xs.drop (i + 1) := by
    obtain ⟨hi, rfl⟩ := List.getElem?_eq_some_iff.1 hx
    exact List.drop_eq_getElem_cons hi
  rw [h2, flt_cons, List.getElem?_append_left (by rw [hk]; exact hj)]
end
end Go.Proofs.YtpgdocmpbeabpaaDoor
