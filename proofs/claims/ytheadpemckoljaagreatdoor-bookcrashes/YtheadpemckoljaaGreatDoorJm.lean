/-
  Maps from texts to ints in memory, as lists of pairs: what they tell, what is left when one is set, struck or gone through. Nothing is claimed here by itself.
-/
import Derived.Test.YtheadpemckoljaaGreatDoorSg
import Derived.Sort.KeysCollected
import Derived.Maps.RangeWalk
import Derived.Maps.OwnSet
import Derived.Maps.Ext
namespace Go.Proofs.YtheadpemckoljaaGreatDoor
open Go.RowKit Go.Extern.Stop Go.Stop Go.Extern Go.Maps Go.WideMaps

/-! ### lists of pairs -/
/-- What a list tells of a key (0: nothing). -/
def vl (L : List (List UInt8 × Int)) (k : List UInt8) : Int := match L.find? (fun p => p.1 == k) with
  | some p => p.2
  | none => 0
/-- No key twice. -/
def Ap (L : List (List UInt8 × Int)) : Prop := L.Pairwise fun p q => p.1 ≠ q.1
theorem vl_none {L : List (List UInt8 × Int)} {k : List UInt8} (h : ∀ p ∈ L, p.1 ≠ k) : vl L k = 0 := by
  unfold vl
  rw [List.find?_eq_none.2 (fun p hp => by simpa using h p hp)]
theorem Ap.eq {L : List (List UInt8 × Int)} (h : Ap L) {p q : List UInt8 × Int} (hp : p ∈ L) (hq : q ∈ L) (e : p.1 = q.1) : p = q := by
  induction L with
  | nil => cases hp
  | cons a L ih =>
    obtain ⟨h1, h2⟩ := List.pairwise_cons.1 h
    rcases List.mem_cons.1 hp with e1 | hp'
    · rcases List.mem_cons.1 hq with e2 | hq'
      · rw [e1, e2]
      · exact absurd (e1 ▸ e) (h1 q hq')
    · rcases List.mem_cons.1 hq with e2 | hq'
      · exact absurd (e2 ▸ e.symm) (h1 p hp')
      · exact ih h2 hp' hq'
theorem vl_mem {L : List (List UInt8 × Int)} {k : List UInt8} {v : Int} (h : Ap L) (hm : (k, v) ∈ L) : vl L k = v := by
  unfold vl
  cases e : L.find? (fun p => p.1 == k) with
  | none => exact absurd (List.find?_eq_none.1 e _ hm) (by simp)
  | some p =>
    have h1 := List.mem_of_find?_eq_some e
    have h2 : p.1 = k := by simpa using List.find?_some e
    rw [h.eq h1 hm h2]
theorem vl_cases (L : List (List UInt8 × Int)) (k : List UInt8) : (∃ v, (k, v) ∈ L ∧ vl L k = v) ∨ ((∀ p ∈ L, p.1 ≠ k) ∧ vl L k = 0) := by
  unfold vl
  cases e : L.find? (fun p => p.1 == k) with
  | none => exact Or.inr ⟨fun p hp => by have := List.find?_eq_none.1 e p hp; simpa using this, rfl⟩
  | some p =>
    have h1 := List.mem_of_find?_eq_some e
    have h2 : p.1 = k := by simpa using List.find?_some e
    exact Or.inl ⟨p.2, by rw [← h2]; exact h1, rfl⟩
/-- One is set. -/
def putL (k : List UInt8) (x : Int) (L : List (List UInt8 × Int)) : List (List UInt8 × Int) := (k, x) :: L.filter fun p => p.1 != k
theorem Ap.put {L : List (List UInt8 × Int)} (h : Ap L) (k : List UInt8) (x : Int) : Ap (putL k x L) :=
  List.pairwise_cons.2 ⟨fun p hp => by have := (List.mem_filter.1 hp).2; simp at this; exact fun e => this e.symm, List.Pairwise.filter _ h⟩
theorem Ap.filter {L : List (List UInt8 × Int)} (h : Ap L) (f : List UInt8 × Int → Bool) : Ap (L.filter f) := List.Pairwise.filter _ h
theorem vl_put (L : List (List UInt8 × Int)) (k : List UInt8) (x : Int) (y : List UInt8) : vl (putL k x L) y = if y = k then x else vl L y := by
  unfold vl putL
  by_cases e : y = k
  · subst e; simp
  · have hk : ¬ k = y := fun h => e h.symm
    rw [List.find?_cons_of_neg (by simpa using hk), if_neg e, List.find?_filter]
    have : (L.find? fun a => decide ((a.1 != k) = true ∧ (a.1 == y) = true)) = L.find? fun p => p.1 == y := by
      congr 1
      funext a
      by_cases h : a.1 = y
      · have : ¬ a.1 = k := fun h2 => e (h.symm.trans h2)
        simp [h, e]
      · simp [h]
    rw [this]
/-- Nodup lists of the same members are one but for their order. -/
theorem perm_of_mem {α : Type} : ∀ {a b : List α}, a.Nodup → b.Nodup → (∀ x, x ∈ a ↔ x ∈ b) → a.Perm b
  | [], b, _, _, h => by
    have : b = [] := List.eq_nil_iff_forall_not_mem.2 fun x hx => by have := (h x).2 hx; cases this
    rw [this]
  | x :: a, b, ha, hb, h => by
    have hx : x ∈ b := (h x).1 (by simp)
    obtain ⟨s, t, rfl⟩ := List.append_of_mem hx
    have hxa := (List.nodup_cons.1 ha)
    have hp : (s ++ x :: t).Perm (x :: (s ++ t)) := List.perm_middle
    have hb2 := List.nodup_cons.1 (hp.nodup_iff.1 hb)
    refine List.Perm.trans (List.Perm.cons x (perm_of_mem hxa.2 hb2.2 fun y => ?_)) hp.symm
    constructor
    · intro hy
      have h1 := (h y).1 (by simp [hy])
      rcases List.mem_cons.1 (hp.subset h1) with rfl | h2
      · exact absurd hy hxa.1
      · exact h2
    · intro hy
      have h1 := (h y).2 (hp.symm.subset (by simp [hy]))
      rcases List.mem_cons.1 h1 with rfl | h2
      · exact absurd hy hb2.1
      · exact h2
theorem Ap.nodup {L : List (List UInt8 × Int)} (h : Ap L) : L.Nodup := by
  rw [List.nodup_iff_pairwise_ne]
  exact h.imp fun hpq e => hpq (by rw [e])
theorem Ap.perm {L M : List (List UInt8 × Int)} (h : Ap L) (hp : L.Perm M) : Ap M := hp.pairwise h (fun hab e => hab e.symm)

/-! ### in memory -/
theorem keyS : Keyed Tryz.prog 9 := string_keyed Tryz.underlying9
theorem zeroI (w : World) : (zeroValue 3).run Tryz.prog w = .ok (.int .i64 0) w := by kernel_rfl
/-- A number of 64 bits. -/
def I64 (x : Int) : Prop := -9223372036854775808 ≤ x ∧ x ≤ 9223372036854775807
theorem wfI {x : Int} (h : I64 x) : (Lit.int .i64 x).wf = true := by
  have e : wrap64 x = x := by have := IntKind.wrap_i64 x; unfold wrap64; have := h.1; have := h.2; omega
  rw [← e]
  exact wrap64_wf _
theorem keyOfS {x : List UInt8} (h : x.length ≤ maxLen) : keyOf Tryz.prog 9 (.string ⟨x.toArray⟩) = some (.string x) := by
  have := keyOf_string_mk (P := Tryz.prog) (k := 9) Tryz.underlying9 (s := ⟨x.toArray⟩) (by show x.toArray.size ≤ maxLen; rw [List.size_toArray]; exact h)
  exact this
theorem isKeyJ (x : List UInt8) : WideAt.IsKeyLit (.string x) := trivial
def enP (p : List UInt8 × Int) : Lit × DataW Unit := (.string p.1, .lit (.int .i64 p.2))
theorem enP_inj {p q : List UInt8 × Int} (h : enP p = enP q) : p = q := by
  simp only [enP, Prod.mk.injEq, Lit.string.injEq, Lit.int.injEq, true_and, DataW.lit.injEq] at h
  exact Prod.ext h.1 h.2
/-- Block b is a map that has just the pairs of L. -/
def MpS (w : World) (b : Nat) (L : List (List UInt8 × Int)) : Prop := ∃ l, w.ownsMap Tryz.prog 9 (plainElem Tryz.prog 3) b L.length (.map l) ∧ l.Perm (L.map enP)
theorem MpS.ap {w : World} {b : Nat} {L : List (List UInt8 × Int)} (h : MpS w b L) : Ap L := by
  obtain ⟨l, h1, h2⟩ := h
  obtain ⟨es, he, hp, _⟩ := h1.entries keyS
  have he' : l = es := by simpa using he
  subst he'
  have h3 : (L.map enP).Pairwise (fun p q => p.1 ≠ q.1) := h2.pairwise hp (fun hab e => hab e.symm)
  rw [List.pairwise_map] at h3
  exact h3.imp fun hpq e => hpq (by simp [enP, e])
theorem MpS.perm {w : World} {b : Nat} {L M : List (List UInt8 × Int)} (h : MpS w b L) (hp : L.Perm M) : MpS w b M := by
  obtain ⟨l, h1, h2⟩ := h
  exact ⟨l, by rw [← hp.length_eq]; exact h1, h2.trans (hp.map enP)⟩
theorem MpS.lt {w : World} {b : Nat} {L : List (List UInt8 × Int)} (h : MpS w b L) : b < w.heap.size := by
  obtain ⟨l, h1, _⟩ := h
  exact h1.lt
theorem MpS.block {w w' : World} {b : Nat} {L : List (List UInt8 × Int)} (h : MpS w b L) (hb : w'.heap[b]? = w.heap[b]?) : MpS w' b L := by
  obtain ⟨l, ⟨es, clock, g1, g2⟩, h2⟩ := h
  exact ⟨l, ⟨es, clock, hb.trans g1, g2⟩, h2⟩
theorem MpS.below {w w' : World} {b : Nat} {L : List (List UInt8 × Int)} (h : MpS w b L) (hb : Below w.heap.size w w') : MpS w' b L := h.block (hb.block b h.lt)
theorem MpS.made (w : World) : MpS (w.alloc (.map #[] 0)) w.heap.size [] := ⟨[], World.ownsMap_made w _ _ _, List.Perm.nil⟩
theorem own_tight {w : World} {P : Program} {k : TypeId} {R : Value → Option (DataW Unit × List MemPlace)} {b n m : Nat} {l : List (Lit × DataW Unit)} (h : w.ownsMap P k R b n (.map l)) (hl : l.length ≤ m) : w.ownsMap P k R b m (.map l) := by
  obtain ⟨es, clock, hb, F, hs, hD⟩ := h
  refine ⟨es, clock, hb, F, ?_, hD⟩
  have e : l = (es.toList.map (Go.WideElems.rg P k R)).foldr DataW.insert [] := by simpa using hD
  rw [e, length_sorted] at hl
  simpa using hl
/-- The map's block, with as many entries as pairs. -/
theorem MpS.len {w : World} {b : Nat} {L : List (List UInt8 × Int)} (h : MpS w b L) : ∃ es clock, w.heap[b]? = some (.map es clock) ∧ es.size = L.length := by
  obtain ⟨l, ⟨es, clock, hb, F, hs, hD⟩, h2⟩ := h
  refine ⟨es, clock, hb, ?_⟩
  have e : l = (es.toList.map (Go.WideElems.rg Tryz.prog 9 (plainElem Tryz.prog 3))).foldr DataW.insert [] := by simpa using hD
  have := h2.length_eq
  rw [e, length_sorted] at this
  simpa using this
theorem look_of {l : List (Lit × DataW Unit)} {L : List (List UInt8 × Int)} (hl : l.Pairwise (fun p q => p.1 ≠ q.1)) (hp : l.Perm (L.map enP)) (k : List UInt8) : (DataW.map l).atKey (.string k) (.lit (.int .i64 0)) = .lit (.int .i64 (vl L k)) := by
  rcases vl_cases L k with ⟨v, hm, e⟩ | ⟨hn, e⟩
  · rw [e]
    exact WideAt.atKey_mem _ (isKeyJ k) hl (hp.symm.subset (List.mem_map.2 ⟨(k, v), hm, rfl⟩))
  · rw [e]
    refine WideAt.atKey_none _ fun p hp' => ?_
    obtain ⟨q, hq, rfl⟩ := List.mem_map.1 (hp.subset hp')
    intro e2
    exact hn q hq (by simpa [enP] using e2)
theorem MpS.look {w : World} {b : Nat} {L : List (List UInt8 × Int)} (h : MpS w b L) {k : List UInt8} (hk : k.length ≤ maxLen) : (Instr.lookup 26 (.map (some b)) (.string ⟨k.toArray⟩) false).run Tryz.prog w = .ok (.int .i64 (vl L k)) w := by
  obtain ⟨l, h1, h2⟩ := h
  obtain ⟨es, he, hp, _⟩ := h1.entries keyS
  have he' : l = es := by simpa using he
  subst he'
  obtain ⟨c, hrun, hat, _⟩ := h1.lookup_int keyS Tryz.underlying26 Tryz.underlying3 (zeroI w) (keyOfS hk)
  rw [look_of hp h2 k] at hat
  have : vl L k = c := by simpa using hat
  rw [this]
  exact hrun
theorem put_perm {l : List (Lit × DataW Unit)} {L : List (List UInt8 × Int)} (hp : l.Perm (L.map enP)) (k : List UInt8) (x : Int) : (ChangeMaps.putKey (.string k) (.lit (.int .i64 x)) l).Perm ((putL k x L).map enP) := by
  unfold ChangeMaps.putKey putL
  have h1 : (DataW.insert (Lit.string k, DataW.lit (.int .i64 x)) (l.filter (ChangeMaps.notKey (.string k)))).Perm ((Lit.string k, DataW.lit (.int .i64 x)) :: l.filter (ChangeMaps.notKey (.string k))) := WideShapes.insert_perm _ _
  refine h1.trans ?_
  rw [List.map_cons]
  refine List.Perm.cons _ ?_
  refine (hp.filter _).trans ?_
  rw [List.filter_map]
  have : (ChangeMaps.notKey (.string k) ∘ enP : List UInt8 × Int → Bool) = fun p => p.1 != k := by
    funext p
    have := notKey_iff (k := Lit.string k) (p := enP p) (isKeyJ k)
    by_cases e : p.1 = k
    · have h0 : ChangeMaps.notKey (.string k) (enP p) = false := by
        cases hh : ChangeMaps.notKey (.string k) (enP p)
        · rfl
        · exact absurd (by simp [enP, e]) (this.1 hh)
      simp [h0, e]
    · have h0 : ChangeMaps.notKey (.string k) (enP p) = true := this.2 (by simp [enP, e])
      simp [h0, e]
  rw [this]
theorem del_perm {l : List (Lit × DataW Unit)} {L : List (List UInt8 × Int)} (hp : l.Perm (L.map enP)) (k : List UInt8) : (ChangeMaps.delKey (.string k) l).Perm ((L.filter fun p => p.1 != k).map enP) := by
  have h := put_perm hp k 0
  unfold ChangeMaps.putKey putL at h
  have h1 : (DataW.insert (Lit.string k, DataW.lit (.int .i64 0)) (l.filter (ChangeMaps.notKey (.string k)))).Perm ((Lit.string k, DataW.lit (.int .i64 0)) :: l.filter (ChangeMaps.notKey (.string k))) := WideShapes.insert_perm _ _
  have h2 := h1.symm.trans h
  rw [List.map_cons] at h2
  exact h2.cons_inv
theorem MpS.upd {w : World} {b : Nat} {L : List (List UInt8 × Int)} (h : MpS w b L) {k : List UInt8} {x : Int} (hk : k.length ≤ maxLen) (hx : I64 x) (hL : L.length < 1000000) : ∃ w', (Instr.mapUpdate 26 (.map (some b)) (.string ⟨k.toArray⟩) (.int .i64 x)).run Tryz.prog w = .ok () w' ∧ MpS w' b (putL k x L) ∧ w.grownBy w' (some b) := by
  obtain ⟨l, g1, g2⟩ := h
  obtain ⟨w', hrun, hown, hg⟩ := g1.update keyS Tryz.underlying26 (by unfold maxLen; omega) (keyOfS hk) (plainElem_int Tryz.underlying3 (wfI hx))
  refine ⟨w', hrun, ?_, hg⟩
  rw [DataW.put_eq] at hown
  have hp := put_perm g2 k x
  exact ⟨_, own_tight hown (by rw [hp.length_eq]; simp), hp⟩
end Go.Proofs.YtheadpemckoljaaGreatDoor
