/-
  package filter: filters in parentheses, in memory. Conditions: none.
-/
import Derived.Test.YtibecinojkkjpaaGreatDoorFl5
namespace Go.Proofs.YtibecinojkkjpaaGreatDoor
open Go.RowKit Go.Extern.Stop Go.Stop Go.Extern

def lenV : Value → Nat
  | .slice _ n _ => n
  | _ => 0
theorem infoFilter : (Tryz.prog.info? 29).map (fun i => (i.zero, i.size, i.bytes)) = some (some .nilIface, 1, 16) := by kernel_rfl
/-- So many are read. -/
structure GrR (w : World) (b d : Nat) (pv : Value) (parts : List Ft) (vs : List Value) (wr : World) : Prop where
  seg : Seg wr 29 1 pv parts.length vs
  len : vs.length = parts.length
  own : ∀ j, pv.ownBlock = some j → w.heap.size ≤ j
  each : ∀ (i : Nat) y u, parts[i]? = some y → vs[i]? = some u → FAt wr (fun k => w.heap.size ≤ k ∧ pv.ownBlock ≠ some k) d y u
  ot : Ot (fun k => k = b) w wr
section
variable {w wr w2 w3 : World} {b d : Nat} {pv : Value} {parts : List Ft} {vs : List Value}
theorem GrR.start (w : World) (b d : Nat) {wr : World} (ho : Ot (fun k => k = b) w wr) : GrR w b d (.slice none 0 0) [] [] wr := ⟨Seg.nil _ _ _, rfl, fun j hj => by simp [Value.ownBlock] at hj, fun i y u h => by simp at h, ho⟩
theorem GrR.ots (h : GrR w b d pv parts vs wr) (hb : b < w.heap.size) (ho : Ot (fun k => k = b) wr w2) : GrR w b d pv parts vs w2 :=
  ⟨h.seg.oth ho (fun g hg e => by have := h.own g hg; omega), h.len, h.own, fun i y u h1 h2 => (h.each i y u h1 h2).ot ho (fun k hk e => by have := hk.1; omega), h.ot.trans ho⟩
theorem GrR.lenV_eq (h : GrR w b d pv parts vs wr) : lenV pv = parts.length := by
  rcases h.seg.form with ⟨e, h0, _⟩ | ⟨_, _, _, e, _⟩ <;> rw [e] <;> simp [lenV, *]
theorem GrR.belowed (h : GrR w b d pv parts vs wr) (ho : Below wr.heap.size wr w2) : GrR w b d pv parts vs w2 :=
  ⟨h.seg.below ho, h.len, h.own, fun i y u h1 h2 => (h.each i y u h1 h2).below ho, h.ot.trans (Ot.of_below ho)⟩
theorem GrR.step (h : GrR w b d pv parts vs wr) (h1 : GrR w b d pv parts vs w2) (hws2 : wr.heap.size ≤ w2.heap.size) {g goff gcap : Nat} {t : Ft} {fv : Value} {o : Obj} (ht : FAt w2 (fun k => wr.heap.size ≤ k) d t fv)
    (hsg : Seg w3 29 1 (.slice (some ⟨g, goff, none⟩) (parts.length + 1) gcap) (parts.length + 1) (vs ++ [fv])) (hg : (w2.alloc o).grownBy w3 pv.ownBlock) (ha : pv.ownBlock = some g ∨ (w2.alloc o).heap.size ≤ g) :
    GrR w b d (.slice (some ⟨g, goff, none⟩) (parts.length + 1) gcap) (parts ++ [t]) (vs ++ [fv]) w3 := by
  have hlt : ∀ j, pv.ownBlock = some j → j < wr.heap.size := fun j hj => h.seg.lt hj
  have hws := h.ot.size
  have kept : ∀ k, k < w2.heap.size → pv.ownBlock ≠ some k → w3.heap[k]? = w2.heap[k]? := fun k hk hv => (hg.block k (by simp; omega) (fun e => hv e.symm)).trans (Below.heap_alloc _ _ _ hk)
  have hgk : ∀ k, k < w2.heap.size → pv.ownBlock ≠ some k → g ≠ k := by
    intro k hk hv e
    rcases ha with ha | ha
    · exact hv (e ▸ ha)
    · simp at ha; omega
  refine ⟨by simpa using hsg, by simp [h.len], ?_, ?_, (h1.ot.alloc _).grown hg (fun k hk => Or.inr (h.own k hk))⟩
  · intro j hj
    simp only [Value.ownBlock, Option.some.injEq] at hj
    subst hj
    rcases ha with ha | ha
    · exact h.own _ ha
    · simp at ha; omega
  · intro i y u hy hu
    by_cases hi : i < parts.length
    · rw [List.getElem?_append_left hi] at hy
      rw [List.getElem?_append_left (by rw [h.len]; exact hi)] at hu
      refine (h1.each i y u hy hu).kept fun k hS hk => ⟨kept k hk hS.2, hS.1, ?_⟩
      simp only [Value.ownBlock, ne_eq, Option.some.injEq]
      exact hgk k hk hS.2
    · have hi2 : i = parts.length := by
        have := (List.getElem?_eq_some_iff.1 hy).1
        simp at this
        omega
      subst hi2
      rw [List.getElem?_append_right (Nat.le_refl _)] at hy
      rw [List.getElem?_append_right (by rw [h.len]; exact Nat.le_refl _)] at hu
      simp [h.len] at hy hu
      subst hy hu
      refine ht.kept fun k hS hk => ?_
      have hne : pv.ownBlock ≠ some k := fun e => by have := hlt k e; omega
      refine ⟨kept k hk hne, by omega, ?_⟩
      simp only [Value.ownBlock, ne_eq, Option.some.injEq]
      exact hgk k hk hne
/-- All of them, in parentheses. -/
theorem GrR.made (h : GrR w b d pv parts vs wr) {K B : Nat} (hK : K = 4 ∨ K = 5) (hb : Below wr.heap.size wr w2) (hB : w2.heap[B]? = some (.cells #[pv] (if K = 4 then 99 else 100) (0, 0))) (hn : wr.heap.size ≤ B) :
    FAt w2 (fun k => w.heap.size ≤ k) (d + 1) ⟨K, 0, 0, 0, parts⟩ (.iface (if K = 4 then 94 else 95) (.pointer (some ⟨B, 0, none⟩))) :=
  Or.inr (Or.inr (Or.inr (Or.inr ⟨K, parts, B, pv, vs, rfl, hK, rfl, Nat.le_trans h.ot.size hn, hB, fun j hj => h.own j hj, h.seg.below hb, h.len, fun i y u h1 h2 => ((h.each i y u h1 h2).below hb).sub fun _ hk => hk.1⟩)))
end
theorem gathered_any (x : Option Addr) (m cap : Nat) (word : List UInt8) (w : World) :
    Calls Tryz.prog 42 #[.slice x m cap, .string ⟨word.toArray⟩] w fun e w' => ∃ B, e = .returned (.iface (if (if word == [111, 114] then 5 else 4) = 4 then 94 else 95) (.pointer (some ⟨B, 0, none⟩))) ∧ w'.heap[B]? = some (.cells #[.slice x m cap] (if (if word == [111, 114] then 5 else 4) = 4 then 99 else 100) (0, 0)) ∧ w.heap.size ≤ B ∧ Below w.heap.size w w' := by
  cases hw : (word == [111, 114])
  · go_enter Tryz.func42, Tryz.ntmps42
    go_wp2
    go_ret
    exact ⟨w.heap.size, rfl, new_block _ _, Nat.le_refl _, below_alloc_ (Below.refl _ _) _⟩
  · go_enter Tryz.func42, Tryz.ntmps42
    go_wp2
    go_ret
    exact ⟨w.heap.size, rfl, new_block _ _, Nat.le_refl _, below_alloc_ (Below.refl _ _) _⟩
end Go.Proofs.YtibecinojkkjpaaGreatDoor
