/-
  Slices of strings, numbers and truth values, read off an argument, and rows of five arguments. Nothing is claimed here by itself.
-/
import Derived.Test.YtheadpemckoljaaGreatDoorBjRow
import Derived.Test.YtheadpemckoljaaGreatDoorJo
import Derived.Deep.Slices
namespace Go.Proofs.YtheadpemckoljaaGreatDoor
open Go.ChangeShapes Go.WideShapes Go.ChangeAt Go.RowKit

theorem cellsBool : Tryz.prog.cellsOf 4 = 1 := by kernel_rfl
theorem cellsInt : Tryz.prog.cellsOf 3 = 1 := by kernel_rfl
section
variable {H : Type} {enc : TypeId × Value → H} {P : Program} {w : World} {base : Nat} {spare : Nat → Bool} {held : Bool}
theorem trodAll_five {t t' t'' t3 t4 : TypeId} {args : Array Value} {ds : List (DataW H)} {ps : List MemPlace} (h : DataW.TrodAll enc P w base spare held [t, t', t'', t3, t4] args.toList ds ps) :
    ∃ v v' v'' v3 v4 d d' d'' d3 d4 p p' p'' p3 p4, args = #[v, v', v'', v3, v4] ∧ ds = [d, d', d'', d3, d4] ∧ ps = p ++ p' ++ p'' ++ p3 ++ p4 ∧ DataW.Trod enc P w base spare held t v d p ∧ DataW.Trod enc P w base spare held t' v' d' p' ∧ DataW.Trod enc P w base spare held t'' v'' d'' p'' ∧ DataW.Trod enc P w base spare held t3 v3 d3 p3 ∧ DataW.Trod enc P w base spare held t4 v4 d4 p4 := by
  obtain ⟨v, vs, d, ds', p, q, hargs, rfl, rfl, hd, hrest⟩ := trodAll_cons h
  obtain ⟨v', vs', d', ds'', p', q', rfl, rfl, rfl, hd', hrest'⟩ := trodAll_cons hrest
  obtain ⟨v'', vs'', d'', ds''', p'', q'', rfl, rfl, rfl, hd'', hrest''⟩ := trodAll_cons hrest'
  obtain ⟨v3, vs3, d3, ds3, p3, q3, rfl, rfl, rfl, hd3, hrest3⟩ := trodAll_cons hrest''
  obtain ⟨v4, vs4, d4, ds4, p4, q4, rfl, rfl, rfl, hd4, hrest4⟩ := trodAll_cons hrest3
  obtain ⟨rfl, rfl, rfl⟩ := trodAll_nil hrest4
  exact ⟨v, v', v'', v3, v4, d, d', d'', d3, d4, p, p', p'', p3, p4, by cases args; simp_all, rfl, by simp, hd, hd', hd'', hd3, hd4⟩
theorem trodAll_mk5 {t t' t'' t3 t4 : TypeId} {v v' v'' v3 v4 : Value} {d d' d'' d3 d4 : DataW H} {p p' p'' p3 p4 : List MemPlace} (h : DataW.Trod enc P w base spare held t v d p) (h' : DataW.Trod enc P w base spare held t' v' d' p')
    (h'' : DataW.Trod enc P w base spare held t'' v'' d'' p'') (h3 : DataW.Trod enc P w base spare held t3 v3 d3 p3) (h4 : DataW.Trod enc P w base spare held t4 v4 d4 p4) : DataW.TrodAll enc P w base spare held [t, t', t'', t3, t4] [v, v', v'', v3, v4] [d, d', d'', d3, d4] (p ++ (p' ++ (p'' ++ (p3 ++ p4)))) := ⟨p, p' ++ (p'' ++ (p3 ++ p4)), h, trodAll_mk4 h' h'' h3 h4, rfl⟩
end

set_option maxRecDepth 100000 in
/-- A slice whose elements are of one cell each, read off an argument. -/
theorem open_sl {α : Type} {H : Type} {enc : TypeId × Value → H} {W : World} {b0 base : Nat} {spare : Nat → Bool} {held : Bool} {v : Value} {d : DataW H} {p : List MemPlace} {r : Reach} {tS tE : TypeId} (f : α → Value)
    (hu : Tryz.prog.underlying tS = some (.slice tE)) (hc : Tryz.prog.cellsOf tE = 1) (hel : ∀ (n : Nat) (u : Value) (y : DataW H × List MemPlace), DataW.trod enc Tryz.prog W base spare held n tE [u] = some y → ∃ a, u = f a)
    (hv : Value.okWide Tryz.prog W r b0 tS v) (h : DataW.Trod enc Tryz.prog W base spare held tS v d p) :
    ∃ (x : Option Addr) (cap : Nat) (l : List α), v = .slice x l.length cap ∧ SlV W x (l.map f) := by
  obtain ⟨a0, len, cap, rfl⟩ := okWide_slice hu hv
  obtain ⟨fuel, hf⟩ := h
  rcases Go.Deep.open_slice1 hu hc hf with ⟨hcs, _⟩ | ⟨a, len', cap', m, n, V, D, Pl, hcs, _, hl, hm, hmm, _, he⟩
  · simp [Value.cells] at hcs
    obtain ⟨rfl, rfl, rfl⟩ := hcs
    exact ⟨none, 0, [], rfl, fun j v hj => by simp at hj⟩
  · simp [Value.cells] at hcs
    obtain ⟨rfl, rfl, rfl⟩ := hcs
    by_cases h0 : len = 0
    · subst h0
      exact ⟨_, _, [], rfl, fun j v hj => by simp at hj⟩
    have hlm : len ≤ m := by rw [hmm]; split <;> omega
    have hcell : ∀ i, i < len → ∃ x : α, W.cell? (a.add i) = some (f x) := by
      intro i hi
      obtain ⟨h1, h2⟩ := he i (by omega)
      obtain ⟨x, hx⟩ := hel _ _ _ h2
      exact ⟨x, by rw [h1, hx]⟩
    obtain ⟨b, off, spot⟩ := a
    have hspot : spot = none := by
      obtain ⟨x, h1⟩ := hcell 0 (by omega)
      simpa [Addr.add] using World.cell?_spot h1
    subst hspot
    have hex : ∀ i : Fin len, ∃ x : α, W.cell? ⟨b, off + i.1, none⟩ = some (f x) := fun i => by
      obtain ⟨x, h1⟩ := hcell i.1 i.2
      rw [Go.WideShapes.add_plain] at h1
      exact ⟨x, h1⟩
    let g : Fin len → α := fun i => Classical.choose (hex i)
    have hg : ∀ i, _ := fun i => Classical.choose_spec (hex i)
    refine ⟨some ⟨b, off, none⟩, cap, List.ofFn g, by simp, fun i x hix => ?_⟩
    have hi : i < len := by
      have := (List.getElem?_eq_some_iff.1 hix).1
      simpa using this
    have : x = f (g ⟨i, hi⟩) := by
      rw [List.getElem?_map, List.getElem?_ofFn] at hix
      simp [hi] at hix
      exact hix.symm
    subst this
    exact ⟨b, off, rfl, hg ⟨i, hi⟩⟩
set_option maxRecDepth 100000 in
theorem open_strL {H : Type} {enc : TypeId × Value → H} {W : World} {b0 base : Nat} {spare : Nat → Bool} {held : Bool} {v : Value} {d : DataW H} {p : List MemPlace} {r : Reach}
    (hv : Value.okWide Tryz.prog W r b0 22 v) (h : DataW.Trod enc Tryz.prog W base spare held 22 v d p) :
    ∃ (x : Option Addr) (cap : Nat) (l : List (List UInt8)), v = .slice x l.length cap ∧ SlV W x (l.map encStr) :=
  open_sl encStr Tryz.underlying22 cellsStr (fun n u y hy => by
    obtain ⟨s, e, _⟩ := DataW.trod_string Tryz.underlying9 hy
    simp only [List.cons.injEq, and_true] at e
    exact ⟨s.data.toList, by rw [e]⟩) hv h
set_option maxRecDepth 100000 in
theorem open_intL {H : Type} {enc : TypeId × Value → H} {W : World} {b0 base : Nat} {spare : Nat → Bool} {held : Bool} {v : Value} {d : DataW H} {p : List MemPlace} {r : Reach}
    (hv : Value.okWide Tryz.prog W r b0 23 v) (h : DataW.Trod enc Tryz.prog W base spare held 23 v d p) :
    ∃ (x : Option Addr) (cap : Nat) (l : List Int), v = .slice x l.length cap ∧ SlV W x (l.map (Value.int .i64)) :=
  open_sl (Value.int .i64) Tryz.underlying23 cellsInt (fun n u y hy => by
    obtain ⟨s, e, _⟩ := DataW.trod_int Tryz.underlying3 hy
    simp only [List.cons.injEq, and_true] at e
    exact ⟨s, e⟩) hv h
set_option maxRecDepth 100000 in
theorem open_boolL {H : Type} {enc : TypeId × Value → H} {W : World} {b0 base : Nat} {spare : Nat → Bool} {held : Bool} {v : Value} {d : DataW H} {p : List MemPlace} {r : Reach}
    (hv : Value.okWide Tryz.prog W r b0 24 v) (h : DataW.Trod enc Tryz.prog W base spare held 24 v d p) :
    ∃ (x : Option Addr) (cap : Nat) (l : List Bool), v = .slice x l.length cap ∧ SlV W x (l.map Value.bool) :=
  open_sl Value.bool Tryz.underlying24 cellsBool (fun n u y hy => by
    obtain ⟨s, e, _⟩ := DataW.trod_bool Tryz.underlying4 hy
    simp only [List.cons.injEq, and_true] at e
    exact ⟨s, e⟩) hv h
end Go.Proofs.YtheadpemckoljaaGreatDoor
