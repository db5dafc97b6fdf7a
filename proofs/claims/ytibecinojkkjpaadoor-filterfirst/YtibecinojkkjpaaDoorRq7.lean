/-
  package filter: First, of filters some of which are none. Conditions: the filters lie in memory.
-/
import Derived.Test.YtibecinojkkjpaaDoorFla
import Derived.Test.YtibecinojkkjpaaDoorFl8
namespace Go.Proofs.YtibecinojkkjpaaDoor
open Go.RowKit Go.Extern.Stop Go.Stop Go.Extern

/-- The first that is so is the n-th (-1: none is). -/
def FirstR (l : List Bool) (n : Int) : Prop := (n = -1 ∧ ∀ b ∈ l, b = false) ∨ ∃ i : Nat, n = i ∧ l[i]? = some true ∧ ∀ j, j < i → l[j]? = some false
theorem FirstR.one {l : List Bool} {n m : Int} (h : FirstR l n) (k : FirstR l m) : n = m := by
  rcases h with ⟨rfl, h⟩ | ⟨i, rfl, hi, hj⟩
  · rcases k with ⟨rfl, _⟩ | ⟨i, rfl, hi, _⟩
    · rfl
    · have := h true (List.mem_of_getElem? hi); simp at this
  · rcases k with ⟨rfl, k⟩ | ⟨i', rfl, hi', hj'⟩
    · have := k true (List.mem_of_getElem? hi); simp at this
    · rcases Nat.lt_trichotomy i i' with h | h | h
      · have := hj' i h; rw [hi] at this; simp at this
      · rw [h]
      · have := hj i' h; rw [hi'] at this; simp at this
theorem FirstR.nil : FirstR [] (-1) := Or.inl ⟨rfl, by simp⟩
theorem FirstR.kept {l : List Bool} {n : Int} (h : FirstR l n) (b : Bool) (hb : n < 0 → b = false) : FirstR (l ++ [b]) n := by
  rcases h with ⟨rfl, h⟩ | ⟨i, rfl, hi, hj⟩
  · refine Or.inl ⟨rfl, fun c hc => ?_⟩
    rcases List.mem_append.1 hc with hc | hc
    · exact h c hc
    · obtain rfl := List.mem_singleton.1 hc
      exact hb (by decide)
  · have hlt := (List.getElem?_eq_some_iff.1 hi).1
    exact Or.inr ⟨i, rfl, by rw [List.getElem?_append_left hlt]; exact hi, fun j h => by rw [List.getElem?_append_left (by omega)]; exact hj j h⟩
theorem FirstR.here {l : List Bool} {n : Int} (h : FirstR l n) (hn : n < 0) : FirstR (l ++ [true]) (l.length : Nat) := by
  rcases h with ⟨rfl, h⟩ | ⟨i, rfl, hi, hj⟩
  · refine Or.inr ⟨l.length, rfl, by simp, fun j hj => ?_⟩
    rw [List.getElem?_append_left hj]
    have := h l[j] (List.getElem_mem hj)
    rw [List.getElem?_eq_getElem hj, this]
  · omega
theorem FirstR.range {l : List Bool} {n : Int} (h : FirstR l n) : -1 ≤ n ∧ n < l.length + 1 := by
  rcases h with ⟨rfl, h⟩ | ⟨i, rfl, hi, hj⟩
  · omega
  · have hlt := (List.getElem?_eq_some_iff.1 hi).1
    omega
/-- Whether a text's filter means the packet (one that is none means nothing). -/
def hitO (x : It) : Option Ft → Bool
  | some t => means x 20 t
  | none => false
/-- So many are read, some of them none. -/
structure GrO (w : World) (pv : Value) (os : List (Option Ft)) (vs : List Value) (wr : World) : Prop where
  seg : Seg wr 31 1 pv os.length vs
  len : vs.length = os.length
  own : ∀ j, pv.ownBlock = some j → w.heap.size ≤ j
  each : ∀ (i : Nat) y u, os[i]? = some y → vs[i]? = some u → (y = none ∧ u = .nilIface) ∨ ∃ t, y = some t ∧ nd 20 t ≤ 100000 ∧ FAt wr (fun k => w.heap.size ≤ k ∧ pv.ownBlock ≠ some k) 20 t u
  below : Below w.heap.size w wr
section
variable {w wr w2 w3 : World} {pv : Value} {os : List (Option Ft)} {vs : List Value}
theorem GrO.start (w : World) : GrO w (.slice none 0 0) [] [] w := ⟨Seg.nil _ _ _, rfl, fun j hj => by simp [Value.ownBlock] at hj, fun i y u h => by simp at h, Below.refl _ _⟩
theorem GrO.belowed (h : GrO w pv os vs wr) (ho : Below wr.heap.size wr w2) : GrO w pv os vs w2 :=
  ⟨h.seg.below ho, h.len, h.own, fun i y u h1 h2 => (h.each i y u h1 h2).imp id fun ⟨t, a, b, c⟩ => ⟨t, a, b, c.below ho⟩, h.below.trans (ho.mono h.below.size)⟩
theorem GrO.step (h : GrO w pv os vs wr) (hws2 : Below wr.heap.size wr w2) {g goff gcap : Nat} {y0 : Option Ft} {fv : Value} {o : Obj} (ht : (y0 = none ∧ fv = .nilIface) ∨ ∃ t, y0 = some t ∧ nd 20 t ≤ 100000 ∧ FAt w2 (fun k => wr.heap.size ≤ k) 20 t fv)
    (hsg : Seg w3 31 1 (.slice (some ⟨g, goff, none⟩) (os.length + 1) gcap) (os.length + 1) (vs ++ [fv])) (hg : (w2.alloc o).grownBy w3 pv.ownBlock) (ha : pv.ownBlock = some g ∨ (w2.alloc o).heap.size ≤ g) :
    GrO w (.slice (some ⟨g, goff, none⟩) (os.length + 1) gcap) (os ++ [y0]) (vs ++ [fv]) w3 := by
  have h1 := h.belowed hws2
  have hlt : ∀ j, pv.ownBlock = some j → j < wr.heap.size := fun j hj => h.seg.lt hj
  have hws := h.below.size
  have hw2 := hws2.size
  have kept : ∀ k, k < w2.heap.size → pv.ownBlock ≠ some k → w3.heap[k]? = w2.heap[k]? := fun k hk hv => (hg.block k (by simp; omega) (fun e => hv e.symm)).trans (Below.heap_alloc _ _ _ hk)
  have hgk : ∀ k, k < w2.heap.size → pv.ownBlock ≠ some k → g ≠ k := by
    intro k hk hv e
    rcases ha with ha | ha
    · exact hv (e ▸ ha)
    · simp at ha; omega
  refine ⟨by simpa using hsg, by simp [h.len], ?_, ?_, below_grown_ (below_alloc_ h1.below _) hg (fun k hk => h.own k hk)⟩
  · intro j hj
    simp only [Value.ownBlock, Option.some.injEq] at hj
    subst hj
    rcases ha with ha | ha
    · exact h.own _ ha
    · simp at ha; omega
  · intro i y u hy hu
    by_cases hi : i < os.length
    · rw [List.getElem?_append_left hi] at hy
      rw [List.getElem?_append_left (by rw [h.len]; exact hi)] at hu
      refine (h1.each i y u hy hu).imp id fun ⟨t, a, b, c⟩ => ⟨t, a, b, c.kept fun k hS hk => ⟨kept k hk hS.2, hS.1, ?_⟩⟩
      simp only [Value.ownBlock, ne_eq, Option.some.injEq]
      exact hgk k hk hS.2
    · have hi2 : i = os.length := by
        have := (List.getElem?_eq_some_iff.1 hy).1
        simp at this
        omega
      subst hi2
      rw [List.getElem?_append_right (Nat.le_refl _)] at hy
      rw [List.getElem?_append_right (by rw [h.len]; exact Nat.le_refl _)] at hu
      simp [h.len] at hy hu
      subst hy hu
      refine ht.imp id fun ⟨t, a, b, c⟩ => ⟨t, a, b, c.kept fun k hS hk => ?_⟩
      have hne : pv.ownBlock ≠ some k := fun e => by have := hlt k e; omega
      refine ⟨kept k hk hne, by omega, ?_⟩
      simp only [Value.ownBlock, ne_eq, Option.some.injEq]
      exact hgk k hk hne
theorem GrO.form (h : GrO w pv os vs wr) : ∃ y c, pv = .slice y os.length c := by
  obtain ⟨y, c, e, _⟩ := seg_slice h.seg
  exact ⟨y, c, e⟩
end
set_option maxRecDepth 100000 in
set_option maxHeartbeats 2000000 in
theorem firstO_any (x : It) {y : Option Addr} {c : Nat} {os : List (Option Ft)} {vs : List Value} {w0 : World} (w1 : World) (h : GrO w0 (.slice y os.length c) os vs w1) (hx : os.length ≤ 100) :
    Calls Tryd.prog 8 #[.slice y os.length c, .agg #[.int .i64 x.a, .int .i64 x.l, .int .i64 x.f, .int .i64 x.b, .int .i64 x.m]] w1 fun e w' => ∃ r : Int, e = .returned (.int .i64 r) ∧ FirstR (os.map (hitO x)) r ∧ Below w1.heap.size w1 w' := by
  have hcs : ∀ (i : Nat) u, vs[i]? = some u → ∃ g off, y = some ⟨g, off, none⟩ ∧ w1.cell? ⟨g, off + i, none⟩ = some u ∧ g < w1.heap.size := by
    obtain ⟨y', c', e, h⟩ := seg_slice h.seg
    injection e with e1 e2 e3
    subst e1
    exact h
  have HEL : Hid (∀ i, i < os.length → ∃ (o : Option Ft) (g off : Nat), os[i]? = some o ∧ y = some ⟨g, off, none⟩ ∧ ((o = none ∧ ∀ w2, Below w1.heap.size w1 w2 → w2.cell? ⟨g, off + i, none⟩ = some .nilIface) ∨ ∃ (ty : TypeId) (rv : Value) (f : FuncId) (rc : Value), (∀ w2, Below w1.heap.size w1 w2 → w2.cell? ⟨g, off + i, none⟩ = some (.iface ty rv)) ∧ (∀ W : World, (Go.method 266 ty rv "Meant").run Tryd.prog W = .ok (f, rc) W) ∧ (∀ (args : Array Value) (W : World), (callFunc f args).run Tryd.prog W = .ok (.enter f args) W) ∧ ∀ w2, Below w1.heap.size w1 w2 → Calls Tryd.prog f #[rc, .agg #[.int .i64 x.a, .int .i64 x.l, .int .i64 x.f, .int .i64 x.b, .int .i64 x.m]] w2 fun e w' => e = .returned (.bool (hitO x o)) ∧ Below w2.heap.size w2 w')) := by
    intro i hi
    obtain ⟨u, hu⟩ : ∃ u, vs[i]? = some u := ⟨_, List.getElem?_eq_getElem (by rw [h.len]; exact hi)⟩
    obtain ⟨o, ho⟩ : ∃ o, os[i]? = some o := ⟨_, List.getElem?_eq_getElem hi⟩
    obtain ⟨g, off, e1, e2, e3⟩ := hcs i u hu
    refine ⟨o, g, off, ho, e1, ?_⟩
    rcases h.each i o u ho hu with ⟨rfl, rfl⟩ | ⟨t, rfl, hnd, hfa⟩
    · exact Or.inl ⟨rfl, fun w2 hb => (hb.cell (p := ⟨g, off + i, none⟩) e3).trans e2⟩
    · obtain ⟨ty, rv, f, rc, rfl, h2, h3, h4⟩ := means_at x w1 _ 20 t u hfa hnd
      exact Or.inr ⟨ty, rv, f, rc, fun w2 hb => (hb.cell (p := ⟨g, off + i, none⟩) e3).trans e2, h2, h3, h4⟩
  clear hcs h
  have HNO : Hid ((∀ j o, j < os.length → os[j]? = some o → hitO x o = false) → FirstR (os.map (hitO x)) (-1)) := by
    intro h
    refine Or.inl ⟨rfl, fun b hb => ?_⟩
    obtain ⟨o, ho, rfl⟩ := List.mem_map.1 hb
    obtain ⟨j, hj⟩ := List.mem_iff_getElem?.1 ho
    exact h j o (List.getElem?_eq_some_iff.1 hj).1 hj
  have HYES : Hid (∀ (i : Nat) o, os[i]? = some o → hitO x o = true → (∀ j o, j < i → os[j]? = some o → hitO x o = false) → FirstR (os.map (hitO x)) i) := by
    intro i o hi ho hj
    have hlt := (List.getElem?_eq_some_iff.1 hi).1
    refine Or.inr ⟨i, rfl, by rw [List.getElem?_map, hi]; simp [ho], fun j hji => ?_⟩
    rw [List.getElem?_map, List.getElem?_eq_getElem (by omega)]
    simp only [Option.map_some]
    rw [hj j _ hji (List.getElem?_eq_getElem (by omega))]
  have HNN : Hid (hitO x none = false) := rfl
  obtain ⟨xa, xl, xf, xb, xm⟩ := x
  simp only at HEL ⊢
  generalize hitO ⟨xa, xl, xf, xb, xm⟩ = me at *
  go_enter Tryd.func8, Tryd.ntmps8
  go_wp2_with fail
  have hbA : Below w1.heap.size w1 (w1.alloc (.cells #[.int .i64 xa, .int .i64 xl, .int .i64 xf, .int .i64 xb, .int .i64 xm] 23)) := below_alloc_ (Below.refl _ _) _
  have kx : (w1.alloc (.cells #[.int .i64 xa, .int .i64 xl, .int .i64 xf, .int .i64 xb, .int .i64 xm] 23)).heap[w1.heap.size]? = some (.cells #[.int .i64 xa, .int .i64 xl, .int .i64 xf, .int .i64 xb, .int .i64 xm] 23 (0, 0)) := new_block _ _
  have hsz : (w1.alloc (.cells #[.int .i64 xa, .int .i64 xl, .int .i64 xf, .int .i64 xb, .int .i64 xm] 23)).heap.size = w1.heap.size + 1 := by simp
  generalize w1.alloc (.cells #[.int .i64 xa, .int .i64 xl, .int .i64 xf, .int .i64 xb, .int .i64 xm] 23) = w2 at *
  go_loopg [9, 5, 6] os.length (fun g v12 _ _ wx => ∃ i : Nat, i + g = os.length ∧ v12 = .int .i64 i ∧ Below w2.heap.size w2 wx ∧ ∀ j t, j < i → os[j]? = some t → me t = false)
  case atStart => exact ⟨0, by omega, rfl, Below.refl _ _, fun j t hj => by omega⟩
  case round =>
    obtain ⟨i, hig, rfl, hbr, hall⟩ := hrel
    have HBR : Hid (Below w1.heap.size w1 wr) := hbA.trans (hbr.mono hbA.size)
    have HBR2 : Hid (Below w2.heap.size w2 wr) := hbr
    have HALL : Hid (∀ j t, j < i → os[j]? = some t → me t = false) := hall
    by_cases hi : i < os.length
    · obtain ⟨t, g, off, ht, rfl, ⟨rfl, hcell⟩ | ⟨ty, rv, f, rc, hcell, hm, he, hc⟩⟩ := HEL.out i hi
      · have q0 := hcell wr HBR.out
        have hi1 : (i : Int) < (os.length : Int) := by omega
        have HT : Hid (me none = false) := by show _ = _; exact HNN.out
        clear hcell hbr kx hall
        go_wp2
        go_roundg (gk - 1)
        case measure => omega
        case rel =>
          refine ⟨i + 1, by omega, by go_num, HBR2.out, fun j t' hj ht' => ?_⟩
          rcases (by omega : j = i ∨ j < i) with rfl | h
          · obtain rfl : none = t' := by rw [ht] at ht'; exact Option.some.inj ht'
            exact HT.out
          · exact HALL.out j t' h ht'
      · have q0 := hcell wr HBR.out
        have kr := (hbr.block w1.heap.size (by omega)).trans kx
        have x0 : wr.cell? ⟨w1.heap.size, 0, none⟩ = some (.int .i64 xa) := by simp [World.cell?, kr]
        have x1 : wr.cell? ⟨w1.heap.size, 1, none⟩ = some (.int .i64 xl) := by simp [World.cell?, kr]
        have x2 : wr.cell? ⟨w1.heap.size, 2, none⟩ = some (.int .i64 xf) := by simp [World.cell?, kr]
        have x3 : wr.cell? ⟨w1.heap.size, 3, none⟩ = some (.int .i64 xb) := by simp [World.cell?, kr]
        have x4 : wr.cell? ⟨w1.heap.size, 4, none⟩ = some (.int .i64 xm) := by simp [World.cell?, kr]
        have HC := hc wr HBR.out
        have hi1 : (i : Int) < (os.length : Int) := by omega
        clear hcell hc kr hbr kx hall
        go_wp2_with fail
        refine HC.mono ?_
        rintro e w3 ⟨rfl, hb3⟩
        cases hmt : me t
        case true =>
          have HR := HYES.out i t ht hmt HALL.out
          go_wp2
          go_ret
          exact ⟨i, rfl, HR, HBR.out.trans (hb3.mono HBR.out.size)⟩
        case false =>
          go_wp2
          go_roundg (gk - 1)
          case measure => omega
          case rel =>
            refine ⟨i + 1, by omega, by go_num, HBR2.out.trans (hb3.mono HBR2.out.size), fun j t' hj ht' => ?_⟩
            rcases (by omega : j = i ∨ j < i) with rfl | h
            · obtain rfl : t = t' := by rw [ht] at ht'; exact Option.some.inj ht'
              exact hmt
            · exact HALL.out j t' h ht'
    · obtain rfl : i = os.length := by omega
      have HR := HNO.out hall
      go_wp2
      go_ret
      exact ⟨-1, rfl, HR, HBR.out⟩
end Go.Proofs.YtibecinojkkjpaaDoor
