/-
  package filter: the same filter with not ahead of tests alone. Conditions: the filter lies in memory, and is not too great.
-/
import Derived.Test.YtibecinojkkjpaaGreatDoorFl6
import Derived.Test.YtibecinojkkjpaaGreatDoorFl9
namespace Go.Proofs.YtibecinojkkjpaaGreatDoor
open Go.RowKit Go.Extern.Stop Go.Stop Go.Extern

def TurnC (d : Nat) : Prop := ∀ (t : Ft) (v : Value) (no : Bool) (w : World) (S : Nat → Prop), FAt w S d t v → nd d t ≤ 100000 → Calls Tryz.prog 22 #[v, .bool no] w fun e w' => ∃ v', e = .returned v' ∧ FAt w' (fun k => w.heap.size ≤ k) (d + 1) (turn d no t) v' ∧ Below w.heap.size w w'
theorem GrR.isBelow {w wr : World} {d : Nat} {pv : Value} {parts : List Ft} {vs : List Value} (h : GrR w w.heap.size d pv parts vs wr) : Below w.heap.size w wr := h.ot.below (Nat.le_refl _) (fun k hk => by omega)
set_option maxRecDepth 20000 in
set_option maxHeartbeats 4000000 in
theorem each_any {d : Nat} (hC : TurnC d) {l : List Ft} {vs : List Value} {y : Option Addr} {c : Nat} (no : Bool) (w : World) (S : Nat → Prop) (hs : Seg w 29 1 (.slice y l.length c) l.length vs) (hl : vs.length = l.length) (hel : ∀ (i : Nat) t u, l[i]? = some t → vs[i]? = some u → FAt w S d t u) (hn : (l.map (nd d)).sum ≤ 100000) :
    Calls Tryz.prog 36 #[.slice y l.length c, .bool no] w fun e w' => ∃ pv vs', e = .returned pv ∧ GrR w w.heap.size (d + 1) pv (l.map (turn d no)) vs' w' := by
  have hcs : ∀ (i : Nat) u, vs[i]? = some u → ∃ g off, y = some ⟨g, off, none⟩ ∧ w.cell? ⟨g, off + i, none⟩ = some u ∧ g < w.heap.size := by
    obtain ⟨y', c', e, h⟩ := seg_slice hs
    injection e with e1 e2 e3
    subst e1
    exact h
  have hlen : l.length ≤ 100000 := Nat.le_trans (nd_len l) hn
  have HEL : Hid (∀ i, i < l.length → ∃ (t : Ft) (g off : Nat) (ty : TypeId) (rv : Value), l[i]? = some t ∧ y = some ⟨g, off, none⟩ ∧ (∀ w2, Below w.heap.size w w2 → w2.cell? ⟨g, off + i, none⟩ = some (.iface ty rv)) ∧ ∀ w2, Below w.heap.size w w2 → Calls Tryz.prog 22 #[.iface ty rv, .bool no] w2 fun e w' => ∃ v', e = .returned v' ∧ FAt w' (fun k => w2.heap.size ≤ k) (d + 1) (turn d no t) v' ∧ Below w2.heap.size w2 w') := by
    intro i hi
    obtain ⟨u, hu⟩ : ∃ u, vs[i]? = some u := ⟨_, List.getElem?_eq_getElem (by omega)⟩
    obtain ⟨t, ht⟩ : ∃ t, l[i]? = some t := ⟨_, List.getElem?_eq_getElem hi⟩
    obtain ⟨g, off, e1, e2, e3⟩ := hcs i u hu
    have hf := hel i t u ht hu
    obtain ⟨ty, rv, rfl⟩ := hf.form
    refine ⟨t, g, off, ty, rv, ht, e1, fun w2 h => ?_, fun w2 h => hC t _ no w2 S (hf.below h) (by have := nd_el (d := d) l t (List.mem_of_getElem? ht); omega)⟩
    rw [h.cell (p := ⟨g, off + i, none⟩) e3]; exact e2
  obtain ⟨i0, hi, hz0, hz1, hz2⟩ := info_parts infoFilter
  clear hs hcs hel hn hC hl
  go_enter Tryz.func36, Tryz.ntmps36
  go_wp2_with fail
  go_loopg [10, 5, 7] l.length (fun g v10 pv _ wx => ∃ (i : Nat) (vs' : List Value), i + g = l.length ∧ v10 = .int .i64 i ∧ GrR w w.heap.size (d + 1) pv ((l.take i).map (turn d no)) vs' wx)
  case atStart => exact ⟨0, [], by omega, rfl, by simpa using GrR.start w w.heap.size (d + 1) (Ot.refl _ _)⟩
  case round =>
    obtain ⟨i, vs', hig, rfl, hgr⟩ := hrel
    by_cases hlt : i < l.length
    · obtain ⟨t, g, off, ty, rv, ht, rfl, hcell, hc⟩ := HEL.out i hlt
      have q0 := hcell wr hgr.isBelow
      have hpl : ((l.take i).map (turn d no)).length = i := by simp; omega
      have HPL : Hid (((l.take i).map (turn d no)).length = i) := hpl
      have HTK : Hid ((l.take (i + 1)).map (turn d no) = (l.take i).map (turn d no) ++ [turn d no t]) := by
        show _ = _
        rw [List.take_add_one, ht]; simp
      have hi1 : (i : Int) < (l.length : Int) := by omega
      have HGR : Hid (GrR w w.heap.size (d + 1) u5 ((l.take i).map (turn d no)) vs' wr) := hgr
      have HC := hc wr hgr.isBelow
      clear hgr hcell hc
      go_wp2_with fail
      refine HC.mono ?_
      rintro e w2 ⟨v', rfl, hf2, hb2⟩
      obtain ⟨ft, fp, rfl⟩ := hf2.form
      have HG2 : Hid (GrR w w.heap.size (d + 1) u5 ((l.take i).map (turn d no)) vs' w2) := HGR.out.belowed hb2
      have HS2 : Hid (Seg w2 29 1 u5 i vs') := by have := HG2.out.seg; rw [HPL.out] at this; exact this
      have HFA : Hid (FAt w2 (fun k => wr.heap.size ≤ k) (d + 1) (turn d no t) (.iface ft fp)) := hf2
      have hsz2 := hb2.size
      clear hf2 hb2 HC
      go_wp2_with (at_builtin; refine wpList_append_seg _ rfl (.tmp 14) (.tmp 18) 96 rfl 29 i0 _ 1 16 Tryz.underlying96 hi hz0 hz1 hz2 rfl (by decide) _ _ _ rfl (HS2.out.below (by repeat' (first | with_reducible exact Below.refl _ _ | with_reducible refine Below.drew ?_ | with_reducible refine below_alloc_ ?_ _))) _ 1 1 _ rfl rfl (news_of (new_block_ (by simp))) (by simp [Value.oneCell']) (by decide) (by unfold maxLen; omega) (by omega) _ rfl ?_; intro g3 goff gcap w3 hs3 hg3 ha3 hl3)
      go_roundg (gk - 1)
      case measure => omega
      case rel =>
        refine ⟨i + 1, vs' ++ [.iface ft fp], by omega, by go_num, ?_⟩
        have hst := HGR.out.step HG2.out hsz2 (t := turn d no t) (fv := .iface ft fp) (g := g3) (goff := goff) (gcap := gcap) HFA.out (by rw [HPL.out]; exact hs3) hg3 ha3
        rw [HPL.out] at hst
        rw [HTK.out]
        exact hst
    · obtain rfl : i = l.length := by omega
      rw [List.take_of_length_le (Nat.le_refl _)] at hgr
      go_wp2
      go_ret
      exact ⟨_, vs', rfl, hgr⟩
end Go.Proofs.YtibecinojkkjpaaGreatDoor
