/-
  package htb: a tree that grows, class by class, in memory. Nothing of the program is claimed here by itself.
-/
import Derived.Test.YtpgdocmpbeabpaaDoorU31
import Derived.Test.YtpgdocmpbeabpaaDoorZta
import Derived.Test.YtpgdocmpbeabpaaDoorU23
namespace Go.Proofs.YtpgdocmpbeabpaaDoor
open Go.RowKit Go.Extern.Stop Go.Stop Go.Extern

theorem tyNe {w : World} {a b : Nat} {x y : Array Value} {s t : TypeId} {f g : Nat × Nat} (h1 : w.heap[a]? = some (.cells x s f)) (h2 : w.heap[b]? = some (.cells y t g)) (hne : s ≠ t) : a ≠ b := by
  rintro rfl
  rw [h1] at h2
  simp only [Option.some.injEq, Obj.cells.injEq] at h2
  exact hne h2.2.1
/-- Nodes and buckets are as they were. -/
def TyK (w w' : World) : Prop := ∀ (k : Nat) (cur : Array Value) (T : TypeId), (T = 94 ∨ T = 117) → w.heap[k]? = some (.cells cur T (0, 0)) → w'.heap[k]? = some (.cells cur T (0, 0))
theorem TyK.refl (w : World) : TyK w w := fun _ _ _ _ h => h
theorem TyK.trans {a b c : World} (h : TyK a b) (k : TyK b c) : TyK a c := fun i cur T hT hi => k i cur T hT (h i cur T hT hi)
theorem TyK.of_below {w w' : World} (h : Below w.heap.size w w') : TyK w w' := fun k _ _ _ hk => (h.block k (lt_of_block hk)).trans hk
theorem TyK.set {w : World} {b o : Nat} {u : Value} {x : Array Value} {T : TypeId} {f : Nat × Nat} (hb : w.heap[b]? = some (.cells x T f)) (hT : T ≠ 94 ∧ T ≠ 117) : TyK w (w.setCell ⟨b, o, none⟩ u) := fun k cur S hS hk => by
  have : k ≠ b := tyNe hk hb (by rcases hS with rfl | rfl; exact hT.1.symm; exact hT.2.symm)
  rw [Below.heap_setCell _ _ _ _ this]
  exact hk
theorem TyK.grown {w w' : World} {r : Option Nat} (hg : w.grownBy w' r) (hr : ∀ k, r = some k → ∃ cur, w.heap[k]? = some (.cells cur 88 (0, 0))) : TyK w w' := fun k cur S hS hk => by
  refine (hg.block k (lt_of_block hk) (fun e => ?_)).trans hk
  obtain ⟨x, hx⟩ := hr k e.symm
  exact absurd rfl (tyNe hk hx (by rcases hS with rfl | rfl <;> decide))
/-- The state of a class that is new. -/
def nd0 (K : HtK) (i : Nat) : HNd := ⟨(K.cls i).rR * (K.cls i).rt, 0, (K.cls i).cR * (K.cls i).ct, 0, [], 0⟩
/-- The classes lie in memory, new. -/
structure GrN (K : HtK) (w : World) (ow : Nat → Nat × Nat) (base : Nat) : Prop where
  par : ∀ i, i < K.N → -1 ≤ (K.cls i).par ∧ (K.cls i).par < i
  inn : ∀ i, K.N ≤ i → K.inner i = false
  node : ∀ i, i < K.N → Blk w (K.nb i) 15 94 (nodeC K (nd0 K i) i (.slice none 0 0))
  rate : ∀ i, i < K.N → StAt w (K.rb i) (K.cls i).rn (K.cls i).rt (K.cls i).rR ((K.cls i).rR * (K.cls i).rt) 0
  ceil : ∀ i, i < K.N → StAt w (K.cb i) (K.cls i).cn (K.cls i).ct (K.cls i).cR ((K.cls i).cR * (K.cls i).ct) 0
  own : ∀ i, i < K.N → ow (K.nb i) = (2, i)
  owr : ∀ i, i < K.N → ow (K.rb i) = (3, i)
  owc : ∀ i, i < K.N → ow (K.cb i) = (4, i)
  lo : ∀ i, i < K.N → base ≤ K.nb i ∧ base ≤ K.rb i ∧ base ≤ K.cb i
theorem GrN.kept {K : HtK} {w w' : World} {ow : Nat → Nat × Nat} {base : Nat} (h : GrN K w ow base) (hk : TyK w w') : GrN K w' ow base := by
  refine ⟨h.par, h.inn, fun i hi => ?_, fun i hi => ⟨(h.rate i hi).1, hk _ _ _ (Or.inr rfl) (h.rate i hi).2⟩, fun i hi => ⟨(h.ceil i hi).1, hk _ _ _ (Or.inr rfl) (h.ceil i hi).2⟩, h.own, h.owr, h.owc, h.lo⟩
  obtain ⟨cur, h1, h2⟩ := h.node i hi
  exact ⟨cur, hk _ _ _ (Or.inl rfl) h1, h2⟩
theorem GrN.low {K : HtK} {w : World} {ow : Nat → Nat × Nat} {base : Nat} (h : GrN K w ow base) : ∀ i, i < K.N → K.nb i < w.heap.size ∧ K.rb i < w.heap.size ∧ K.cb i < w.heap.size := fun i hi => ⟨(h.node i hi).lt, (h.rate i hi).lt, (h.ceil i hi).lt⟩
/-- One class more. -/
def HtK.push (K : HtK) (c : HCl) (n r b : Nat) : HtK := { K with N := K.N + 1, cls := updF K.cls K.N c, inner := fun i => K.inner i || decide (c.par = (i : Int)), nb := updF K.nb K.N n, rb := updF K.rb K.N r, cb := updF K.cb K.N b }
def owP (ow : Nat → Nat × Nat) (N n r b : Nat) (k : Nat) : Nat × Nat := if k = n then (2, N) else if k = r then (3, N) else if k = b then (4, N) else ow k
/-- The cells of a class that is new. -/
def NC (c : HCl) (r b : Nat) (j : Nat) : Value := (newC c r b).getD j undef
theorem newC_blk {w : World} {n : Nat} {c : HCl} {r b : Nat} (h : w.heap[n]? = some (.cells (newC c r b).toArray 94 (0, 0))) : Blk w n 15 94 (NC c r b) := by
  refine ⟨_, h, rfl, fun i hi => ?_⟩
  have hl : (newC c r b).length = 15 := rfl
  rw [List.getElem?_toArray, NC, List.getD_eq_getElem?_getD, List.getElem?_eq_getElem (by omega)]
  rfl
theorem nodeC_new {K : HtK} {N : Nat} {c : HCl} {r b : Nat} {ab : Value} (ec : K.cls N = c) (er : K.rb N = r) (eb : K.cb N = b) (ei : K.inner N = false) (eu : ndV K (hUp K N) = ab) : ∀ j, j < 15 → nodeC K (nd0 K N) N (.slice none 0 0) j = updC (NC c r b) 8 ab j := by
  intro j hj
  have : j = 0 ∨ j = 1 ∨ j = 2 ∨ j = 3 ∨ j = 4 ∨ j = 5 ∨ j = 6 ∨ j = 7 ∨ j = 8 ∨ j = 9 ∨ j = 10 ∨ j = 11 ∨ j = 12 ∨ j = 13 ∨ j = 14 := by omega
  rcases this with rfl | rfl | rfl | rfl | rfl | rfl | rfl | rfl | rfl | rfl | rfl | rfl | rfl | rfl | rfl <;> simp [nodeC, ec, er, eb, ei, eu, updC, NC, newC, nd0, sumL]
theorem nodeC_push {K : HtK} {c : HCl} {n r b i : Nat} (hp : ∀ i, i < K.N → (K.cls i).par < i) (hi : i < K.N) : ∀ j, j < 15 → nodeC (K.push c n r b) (nd0 (K.push c n r b) i) i (.slice none 0 0) j = updC (nodeC K (nd0 K i) i (.slice none 0 0)) 9 (.bool (K.inner i || decide (c.par = (i : Int)))) j := by
  intro j hj
  have ne : i ≠ K.N := by omega
  have ec : (K.push c n r b).cls i = K.cls i := updF_ne ne
  have er : (K.push c n r b).rb i = K.rb i := updF_ne ne
  have eb : (K.push c n r b).cb i = K.cb i := updF_ne ne
  have ei : (K.push c n r b).inner i = (K.inner i || decide (c.par = (i : Int))) := rfl
  have eu : ndV (K.push c n r b) (hUp (K.push c n r b) i) = ndV K (hUp K i) := by
    unfold hUp
    rw [ec]
    split
    · rfl
    · have := hp i hi
      show Value.pointer (some ⟨updF K.nb K.N n (K.cls i).par.toNat, 0, none⟩) = Value.pointer (some ⟨K.nb (K.cls i).par.toNat, 0, none⟩)
      rw [updF_ne (by omega)]
  have : j = 0 ∨ j = 1 ∨ j = 2 ∨ j = 3 ∨ j = 4 ∨ j = 5 ∨ j = 6 ∨ j = 7 ∨ j = 8 ∨ j = 9 ∨ j = 10 ∨ j = 11 ∨ j = 12 ∨ j = 13 ∨ j = 14 := by omega
  rcases this with rfl | rfl | rfl | rfl | rfl | rfl | rfl | rfl | rfl | rfl | rfl | rfl | rfl | rfl | rfl <;> simp [nodeC, ec, er, eb, ei, eu, updC, nd0]
theorem GrN.push {K : HtK} {w w0 : World} {ow : Nat → Nat × Nat} {base H : Nat} (h : GrN K w0 ow base) {c : HCl} {n r b : Nat} {ab : Value} (hlow : ∀ i, i < K.N → K.nb i < H ∧ K.rb i < H ∧ K.cb i < H) (hH : base ≤ H) (h1 : H ≤ r) (h2 : r < b) (h3 : b < n) (hp : -1 ≤ c.par ∧ c.par < K.N)
    (hab : ab = if c.par < 0 then .pointer none else .pointer (some ⟨K.nb c.par.toNat, 0, none⟩))
    (hnode : ∀ i, i < K.N → Blk w (K.nb i) 15 94 (updC (nodeC K (nd0 K i) i (.slice none 0 0)) 9 (.bool (K.inner i || decide (c.par = (i : Int))))))
    (hrate : ∀ i, i < K.N → StAt w (K.rb i) (K.cls i).rn (K.cls i).rt (K.cls i).rR ((K.cls i).rR * (K.cls i).rt) 0)
    (hceil : ∀ i, i < K.N → StAt w (K.cb i) (K.cls i).cn (K.cls i).ct (K.cls i).cR ((K.cls i).cR * (K.cls i).ct) 0)
    (hn : Blk w n 15 94 (updC (NC c r b) 8 ab)) (hr : StAt w r c.rn c.rt c.rR (c.rR * c.rt) 0) (hb : StAt w b c.cn c.ct c.cR (c.cR * c.ct) 0) : GrN (K.push c n r b) w (owP ow K.N n r b) base := by
  have ecN : (K.push c n r b).cls K.N = c := updF_same _ _ _
  have enN : (K.push c n r b).nb K.N = n := updF_same _ _ _
  have erN : (K.push c n r b).rb K.N = r := updF_same _ _ _
  have ebN : (K.push c n r b).cb K.N = b := updF_same _ _ _
  have ec : ∀ i, i < K.N → (K.push c n r b).cls i = K.cls i := fun i hi => updF_ne (by omega)
  have en : ∀ i, i < K.N → (K.push c n r b).nb i = K.nb i := fun i hi => updF_ne (by omega)
  have er : ∀ i, i < K.N → (K.push c n r b).rb i = K.rb i := fun i hi => updF_ne (by omega)
  have eb : ∀ i, i < K.N → (K.push c n r b).cb i = K.cb i := fun i hi => updF_ne (by omega)
  have hlt : ∀ i, i < (K.push c n r b).N → i < K.N ∨ i = K.N := fun i hi => by
    have : i < K.N + 1 := hi
    omega
  refine ⟨fun i hi => ?_, fun i hi => ?_, fun i hi => ?_, fun i hi => ?_, fun i hi => ?_, fun i hi => ?_, fun i hi => ?_, fun i hi => ?_, fun i hi => ?_⟩
  · rcases hlt i hi with h' | rfl
    · rw [ec i h']; exact h.par i h'
    · rw [ecN]; exact hp
  · have hi' : K.N + 1 ≤ i := hi
    show (K.inner i || decide (c.par = (i : Int))) = false
    rw [h.inn i (by omega), decide_eq_false (by omega)]
    rfl
  · rcases hlt i hi with h' | rfl
    · rw [en i h']
      exact (hnode i h').cong (nodeC_push (fun j hj => (h.par j hj).2) h')
    · rw [enN]
      refine hn.cong (nodeC_new ecN erN ebN ?_ ?_)
      · show (K.inner K.N || decide (c.par = (K.N : Int))) = false
        rw [h.inn K.N (Nat.le_refl _), decide_eq_false (by omega)]
        rfl
      · rw [hab]
        unfold hUp
        rw [ecN]
        split
        · rfl
        · show Value.pointer (some ⟨(K.push c n r b).nb c.par.toNat, 0, none⟩) = _
          rw [en _ (by omega)]
  · rcases hlt i hi with h' | rfl
    · rw [er i h', ec i h']; exact hrate i h'
    · rw [erN, ecN]; exact hr
  · rcases hlt i hi with h' | rfl
    · rw [eb i h', ec i h']; exact hceil i h'
    · rw [ebN, ecN]; exact hb
  · rcases hlt i hi with h' | rfl
    · have := hlow i h'
      rw [en i h']; unfold owP
      rw [if_neg (by omega), if_neg (by omega), if_neg (by omega)]; exact h.own i h'
    · rw [enN]; unfold owP; rw [if_pos rfl]
  · rcases hlt i hi with h' | rfl
    · have := hlow i h'
      rw [er i h']; unfold owP
      rw [if_neg (by omega), if_neg (by omega), if_neg (by omega)]; exact h.owr i h'
    · rw [erN]; unfold owP; rw [if_neg (by omega), if_pos rfl]
  · rcases hlt i hi with h' | rfl
    · have := hlow i h'
      rw [eb i h']; unfold owP
      rw [if_neg (by omega), if_neg (by omega), if_neg (by omega)]; exact h.owc i h'
    · rw [ebN]; unfold owP; rw [if_neg (by omega), if_neg (by omega), if_pos rfl]
  · rcases hlt i hi with h' | rfl
    · rw [en i h', er i h', eb i h']; exact h.lo i h'
    · rw [enN, erN, ebN]; omega
/-- The pointers to classes. -/
def ptrsH (f : Nat → Nat) (n : Nat) : List Value := (List.range n).map fun i => .pointer (some ⟨f i, 0, none⟩)
theorem ptrsH_succ {f g : Nat → Nat} {n : Nat} (h : ∀ i, i < n → g i = f i) : ptrsH g (n + 1) = ptrsH f n ++ [.pointer (some ⟨g n, 0, none⟩)] := by
  unfold ptrsH
  rw [List.range_succ, List.map_append]
  congr 1
  refine List.map_congr_left fun i hi => ?_
  rw [h i (by simpa using hi)]
theorem ptrsH_at {f : Nat → Nat} {n i : Nat} (h : i < n) : (ptrsH f n)[i]? = some (.pointer (some ⟨f i, 0, none⟩)) := by
  unfold ptrsH
  rw [List.getElem?_map, List.getElem?_range h]
  rfl
/-- The tree that grows. -/
structure GrAt (K : HtK) (w : World) (v : Value) (ow : Nat → Nat × Nat) (base : Nat) : Prop where
  n : GrN K w ow base
  root : w.heap[K.tb]? = some (.cells #[.int .i64 K.room, v, .int .i64 0] 68 (0, 0))
  row : w.ownsRow base 88 1 v K.N (ptrsH K.nb K.N)
  owt : ow K.tb = (0, 0)
  bt : base ≤ K.tb
theorem GrAt.below {K : HtK} {w w' : World} {v : Value} {ow : Nat → Nat × Nat} {base : Nat} (h : GrAt K w v ow base) (hb : Below w.heap.size w w') : GrAt K w' v ow base :=
  ⟨h.n.kept (TyK.of_below hb), (hb.block _ (lt_of_block h.root)).trans h.root, ownW_below h.row hb, h.owt, h.bt⟩
/-- What its list's block is not. -/
theorem GrAt.rowNe {K : HtK} {w : World} {v : Value} {ow : Nat → Nat × Nat} {base : Nat} (h : GrAt K w v ow base) {k : Nat} (hk : v.ownBlock = some k) : k ≠ K.tb ∧ ∀ i, i < K.N → k ≠ K.nb i ∧ k ≠ K.rb i ∧ k ≠ K.cb i := by
  obtain ⟨_, _, cur, hc⟩ := ownW_lt h.row hk
  refine ⟨tyNe hc h.root (by decide), fun i hi => ⟨?_, tyNe hc (h.n.rate i hi).2 (by decide), tyNe hc (h.n.ceil i hi).2 (by decide)⟩⟩
  obtain ⟨x, hx, _⟩ := h.n.node i hi
  exact tyNe hc hx (by decide)
/-- Grown up, it is a tree. -/
theorem GrAt.tree {K : HtK} {w : World} {v : Value} {ow : Nat → Nat × Nat} {base : Nat} (h : GrAt K w v ow base) (hN : 0 < K.N) : ∃ g gcap ow', HtAt { K with g := g, gcap := gcap } w ⟨nd0 K, 0, 0⟩ (fun _ => .slice none 0 0) ow' ∧ ∀ k, HtF { K with g := g, gcap := gcap } (fun _ => .slice none 0 0) k → base ≤ k := by
  obtain ⟨g, cap, cur, hv, hg, hh, h1, h2, h3, h4⟩ := own_someW h.row hN
  have hne := h.rowNe (k := g) (by rw [hv]; rfl)
  refine ⟨g, cap, fun k => if k = g then (1, 0) else ow k, ⟨?_, lt_of_block hh, fun i hi => ?_, fun i hi => ?_, fun i hi => ?_, fun i hi => ?_, ?_, if_pos rfl, fun i hi => ?_, fun i hi => ?_, fun i hi => ?_, fun i hi k hk => by cases hk⟩, fun k hk => ?_⟩
  · rw [← hv]; exact h.root
  · have hr := h.row
    rw [hv] at hr
    exact (ownW_cell hr (ptrsH_at hi)).1
  · refine ⟨(h.n.node i hi).cong fun j hj => rfl, by decide, rfl, rfl, Hs.nil _, fun e => by cases e⟩
  · exact (h.n.rate i hi).bkt (Int.le_refl _)
  · exact (h.n.ceil i hi).bkt (Int.le_refl _)
  · show (if K.tb = g then _ else _) = _
    rw [if_neg (fun e => hne.1 e.symm)]; exact h.owt
  · show (if K.nb i = g then _ else _) = _
    rw [if_neg (fun e => (hne.2 i hi).1 e.symm)]; exact h.n.own i hi
  · show (if K.rb i = g then _ else _) = _
    rw [if_neg (fun e => (hne.2 i hi).2.1 e.symm)]; exact h.n.owr i hi
  · show (if K.cb i = g then _ else _) = _
    rw [if_neg (fun e => (hne.2 i hi).2.2 e.symm)]; exact h.n.owc i hi
  · rcases hk with rfl | rfl | ⟨i, hi, hk⟩
    · exact h.bt
    · exact hg
    · have := h.n.lo i hi
      rcases hk with rfl | rfl | rfl | hk
      · exact this.1
      · exact this.2.1
      · exact this.2.2
      · cases hk
end Go.Proofs.YtpgdocmpbeabpaaDoor
