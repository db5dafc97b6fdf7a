/-
  The reference's Inside: the same filter with not ahead of tests alone. Conditions: the filter lies in memory, and is not too great. Written by wip/mkrt6.py.
-/
import Derived.Test.YtibecinojkkjpaaGreatDoorRp4
import Derived.Test.YtibecinojkkjpaaGreatDoorFl9
import Derived.Maps.Own
import Derived.Maps.OwnSet
import Derived.Maps.StringElems
import Derived.StringKeys
namespace Go.Proofs.YtibecinojkkjpaaGreatDoor
open Go.RowKit Go.Extern.Stop Go.Stop Go.Extern Go.Maps

theorem cells5i {w : World} {b : Nat} {v0 v1 v2 v3 v4 : Value} {T : TypeId} (hb : w.heap[b]? = some (.cells #[v0, v1, v2, v3, v4] T (0, 0))) : w.cell? ⟨b, 0, none⟩ = some v0 ∧ w.cell? ⟨b, 4, none⟩ = some v4 ∧ w.frozen? ⟨b, 0, none⟩ = false ∧ w.frozen? ⟨b, 4, none⟩ = false := by
  refine ⟨?_, ?_, ?_, ?_⟩
  all_goals simp [World.cell?, World.frozen?, hb]
theorem keyS (s : ByteArray) (h : s.size ≤ 10) : keyOf Tryz.prog 9 (.string s) = some (.string s.data.toList) := Go.WideMaps.keyOf_string_mk Tryz.underlying9 (by unfold maxLen; omega)
theorem elemS (s : ByteArray) (h : s.size ≤ 10) : plainElem (H := Unit) Tryz.prog 9 (.string s) = some (.lit (.string s.data.toList), []) := plainElem_string Tryz.underlying9 (by unfold maxLen; omega)
theorem keyedS : Keyed Tryz.prog 9 := string_keyed Tryz.underlying9
theorem zeroS (w : World) : (zeroValue 9).run Tryz.prog w = .ok (.string ⟨#[]⟩) w := by kernel_rfl
/-- The map of the two words, made and asked. -/
theorem swap_map (w : World) : ∃ w1 w2, (Instr.mapUpdate 67 (.map (some w.heap.size)) (.string ⟨#[97, 110, 100]⟩) (.string ⟨#[111, 114]⟩)).run Tryz.prog (w.alloc (.map #[] 0)) = .ok () w1 ∧ (Instr.mapUpdate 67 (.map (some w.heap.size)) (.string ⟨#[111, 114]⟩) (.string ⟨#[97, 110, 100]⟩)).run Tryz.prog w1 = .ok () w2 ∧
    (Instr.lookup 67 (.map (some w.heap.size)) (.string ⟨#[97, 110, 100]⟩) false).run Tryz.prog w2 = .ok (.string ⟨#[111, 114]⟩) w2 ∧ (Instr.lookup 67 (.map (some w.heap.size)) (.string ⟨#[111, 114]⟩) false).run Tryz.prog w2 = .ok (.string ⟨#[97, 110, 100]⟩) w2 ∧ Below w.heap.size w w2 := by
  have t0 : (w.alloc (.map #[] 0)).ownsMap Tryz.prog 9 (plainElem (H := Unit) Tryz.prog 9) w.heap.size 0 (.map []) := World.ownsMap_made w _ _ _
  obtain ⟨w1, r1, t1, g1⟩ := t0.update keyedS Tryz.underlying67 (by unfold maxLen; omega) (keyS ⟨#[97, 110, 100]⟩ (by decide)) (elemS ⟨#[111, 114]⟩ (by decide))
  obtain ⟨w2, r2, t2, g2⟩ := t1.update keyedS Tryz.underlying67 (by unfold maxLen; omega) (keyS ⟨#[111, 114]⟩ (by decide)) (elemS ⟨#[97, 110, 100]⟩ (by decide))
  obtain ⟨v3, p3, r3, h3⟩ := t2.lookup keyedS Tryz.underlying67 (zeroS _) (elemS ⟨#[]⟩ (by decide)) (keyS ⟨#[97, 110, 100]⟩ (by decide))
  obtain ⟨v4, p4, r4, h4⟩ := t2.lookup keyedS Tryz.underlying67 (zeroS _) (elemS ⟨#[]⟩ (by decide)) (keyS ⟨#[111, 114]⟩ (by decide))
  have hne : (Lit.string (⟨#[97, 110, 100]⟩ : ByteArray).data.toList) ≠ Lit.string (⟨#[111, 114]⟩ : ByteArray).data.toList := by intro h; cases h
  rw [atKey_put_other hne, atKey_put_same t0.isMap (keyedS.key (keyS ⟨#[97, 110, 100]⟩ (by decide)))] at h3
  rw [atKey_put_same t1.isMap (keyedS.key (keyS ⟨#[111, 114]⟩ (by decide)))] at h4
  obtain ⟨s3, rfl, e3, _⟩ := plainElem_string_inv Tryz.underlying9 h3
  obtain ⟨s4, rfl, e4, _⟩ := plainElem_string_inv Tryz.underlying9 h4
  have strE : ∀ {a b : ByteArray}, a.data.toList = b.data.toList → a = b := by
    intro a b h
    obtain ⟨⟨a⟩⟩ := a
    obtain ⟨⟨b⟩⟩ := b
    simp at h
    rw [h]
  have k3 : s3 = ⟨#[111, 114]⟩ := strE (by simp only [Prod.mk.injEq, DataW.lit.injEq, Lit.string.injEq] at e3; exact e3.1.symm)
  have k4 : s4 = ⟨#[97, 110, 100]⟩ := strE (by simp only [Prod.mk.injEq, DataW.lit.injEq, Lit.string.injEq] at e4; exact e4.1.symm)
  subst k3 k4
  have h0 : Below w.heap.size w (w.alloc (.map #[] 0)) := below_alloc_ (Below.refl _ _) _
  have hr : ∀ k, some w.heap.size = some k → w.heap.size ≤ k := fun k hk => by simp at hk; omega
  exact ⟨w1, w2, r1, r2, r3, r4, below_grown_ (below_grown_ h0 g1 hr) g2 hr⟩
/-- So many are turned, in the filter of block fb. -/
structure GkI (w : World) (S : Nat → Prop) (fb D : Nat) (K : ByteArray) (kv : Value) (parts : List Ft) (ks : List Nat) (wr : World) : Prop where
  new : w.heap.size ≤ fb
  blk : wr.heap[fb]? = some (.cells #[.string K, .int .i64 0, .int .i64 0, .int .i64 0, kv] 63 (0, 0))
  seg : Seg wr 22 1 kv parts.length (ks.map ptrV)
  len : ks.length = parts.length
  own : ∀ j, kv.ownBlock = some j → w.heap.size ≤ j ∧ j ≠ fb
  each : ∀ (i : Nat) y k, parts[i]? = some y → ks[i]? = some k → RfAt wr (fun j => (S j ∨ w.heap.size ≤ j) ∧ j ≠ fb ∧ kv.ownBlock ≠ some j) D y k
  bel : Below w.heap.size w wr
section
variable {w wr w2 w3 W : World} {S : Nat → Prop} {fb D : Nat} {K : ByteArray} {kv : Value} {parts : List Ft} {ks : List Nat}
theorem GkI.lt (h : GkI w S fb D K kv parts ks wr) : fb < wr.heap.size := lt_of_block h.blk
theorem GkI.belowed (h : GkI w S fb D K kv parts ks wr) (ho : Below wr.heap.size wr w2) : GkI w S fb D K kv parts ks w2 :=
  ⟨h.new, (ho.block fb h.lt).trans h.blk, h.seg.below ho, h.len, h.own, fun i y u h1 h2 => (h.each i y u h1 h2).below ho, h.bel.trans (ho.mono h.bel.size)⟩
theorem GkI.low (_ : GkI w S fb D K kv parts ks wr) (hW : Below wr.heap.size wr W) (hg : W.grownBy w3 kv.ownBlock) : ∀ k, k < wr.heap.size → kv.ownBlock ≠ some k → w3.heap[k]? = wr.heap[k]? := fun k hk hv => (hg.block k (by have := hW.size; omega) (fun e => hv e.symm)).trans (hW.block k hk)
theorem GkI.mid (h : GkI w S fb D K kv parts ks wr) (hW : Below wr.heap.size wr W) (hg : W.grownBy w3 kv.ownBlock) : w3.heap[fb]? = some (.cells #[.string K, .int .i64 0, .int .i64 0, .int .i64 0, kv] 63 (0, 0)) ∧ w3.cell? ⟨fb, 4, none⟩ = some kv ∧ w3.frozen? ⟨fb, 4, none⟩ = false := by
  have hb := (h.low hW hg fb h.lt (fun e => (h.own fb e).2 rfl)).trans h.blk
  exact ⟨hb, by simp [World.cell?, hb], by simp [World.frozen?, hb]⟩
theorem GkI.step (h : GkI w S fb D K kv parts ks wr) (hS : ∀ k, S k → k < w.heap.size) (ho : Below wr.heap.size wr w2) {W : World} (hW : Below w2.heap.size w2 W) {g goff gcap H : Nat} {t : Ft} {tb : Nat} (ht : RfAt w2 (fun k => S k ∨ wr.heap.size ≤ k) D t tb)
    (hsg : Seg w3 22 1 (.slice (some ⟨g, goff, none⟩) (parts.length + 1) gcap) (parts.length + 1) (ks.map ptrV ++ [ptrV tb])) (hg : W.grownBy w3 kv.ownBlock) (ha : kv.ownBlock = some g ∨ H ≤ g) (hH : w2.heap.size ≤ H) :
    GkI w S fb D K (.slice (some ⟨g, goff, none⟩) (parts.length + 1) gcap) (parts ++ [t]) (ks ++ [tb]) (w3.setCell ⟨fb, 4, none⟩ (.slice (some ⟨g, goff, none⟩) (parts.length + 1) gcap)) := by
  have h1 := h.belowed ho
  have hlt : ∀ j, kv.ownBlock = some j → j < wr.heap.size := fun j hj => h.seg.lt hj
  have hws := h.bel.size
  have hws2 := ho.size
  have hfb := h.new
  have hfl := h.lt
  have kept : ∀ k, k < w2.heap.size → kv.ownBlock ≠ some k → w3.heap[k]? = w2.heap[k]? := fun k hk hv => (hg.block k (by have := hW.size; omega) (fun e => hv e.symm)).trans (hW.block k hk)
  have hgk : ∀ k, k < w2.heap.size → kv.ownBlock ≠ some k → g ≠ k := by
    intro k hk hv e
    rcases ha with ha | ha
    · exact hv (e ▸ ha)
    · omega
  have hfv : kv.ownBlock ≠ some fb := fun e => (h.own fb e).2 rfl
  have hblk : w3.heap[fb]? = some (.cells #[.string K, .int .i64 0, .int .i64 0, .int .i64 0, kv] 63 (0, 0)) := (kept fb (by omega) hfv).trans h1.blk
  have hgf : g ≠ fb := hgk fb (by omega) hfv
  have hso : ∀ k, k ≠ fb → (w3.setCell ⟨fb, 4, none⟩ (.slice (some ⟨g, goff, none⟩) (parts.length + 1) gcap)).heap[k]? = w3.heap[k]? := fun k hk => heap_setCell_other _ ⟨fb, 4, none⟩ k _ hk
  have hot : Ot (fun _ => False) w (w3.setCell ⟨fb, 4, none⟩ (.slice (some ⟨g, goff, none⟩) (parts.length + 1) gcap)) := (((Ot.of_below h1.bel).trans' (Ot.of_below (S := fun _ => False) hW) (fun _ h _ => h)).grown hg (fun k hk => Or.inr (h.own k hk).1)).setCell (p := ⟨fb, 4, none⟩) (Or.inr hfb) _
  refine ⟨hfb, by rw [heap_setCell_here hblk]; simp, ?_, by simp [h.len], ?_, ?_, hot.below (Nat.le_refl _) (fun k hk => hk.elim)⟩
  · rw [List.length_append, List.map_append]
    exact hsg.setCell (p := ⟨fb, 4, none⟩) (by simpa [Value.ownBlock] using hgf) _
  · intro j hj
    simp only [Value.ownBlock, Option.some.injEq] at hj
    subst hj
    refine ⟨?_, hgf⟩
    rcases ha with ha | ha
    · exact (h.own _ ha).1
    · omega
  · intro i y u hy hu
    by_cases hi : i < parts.length
    · rw [List.getElem?_append_left hi] at hy
      rw [List.getElem?_append_left (by rw [h.len]; exact hi)] at hu
      refine (h1.each i y u hy hu).kept fun k hQ hk => ⟨(hso k hQ.2.1).trans (kept k hk hQ.2.2), hQ.1, hQ.2.1, ?_⟩
      simp only [Value.ownBlock, ne_eq, Option.some.injEq]
      exact hgk k hk hQ.2.2
    · have hi2 : i = parts.length := by
        have := (List.getElem?_eq_some_iff.1 hy).1
        simp at this
        omega
      subst hi2
      rw [List.getElem?_append_right (Nat.le_refl _)] at hy
      rw [List.getElem?_append_right (by rw [h.len]; exact Nat.le_refl _)] at hu
      simp [h.len] at hy hu
      subst hy hu
      refine ht.kept fun k hQ hk => ?_
      have hkf : k ≠ fb := by
        rcases hQ with hQ | hQ
        · have := hS k hQ; omega
        · omega
      have hne : kv.ownBlock ≠ some k := fun e => by
        have a1 := hlt k e
        have a2 := (h.own k e).1
        rcases hQ with hQ | hQ
        · have := hS k hQ; omega
        · omega
      refine ⟨(hso k hkf).trans (kept k hk hne), ?_, hkf, ?_⟩
      · rcases hQ with hQ | hQ
        · exact Or.inl hQ
        · right; omega
      · simp only [Value.ownBlock, ne_eq, Option.some.injEq]
        exact hgk k hk hne
/-- All of them. -/
theorem GkI.made {k : Nat} (h : GkI w S fb D (kindS k) kv parts ks wr) (hk : k = 4 ∨ k = 5) : RfAt wr (fun j => S j ∨ w.heap.size ≤ j) (D + 1) ⟨k, 0, 0, 0, parts⟩ fb := by
  refine ⟨Or.inr (Or.inr (Or.inr (Or.inr ⟨k, parts, rfl, hk, fun y hy => ?_⟩))), Or.inr h.new, kv, ks, ?_, fun j hj => Or.inr (h.own j hj).1, h.seg, h.len, fun i y u h1 h2 => (h.each i y u h1 h2).sub fun _ hq => hq.1⟩
  · obtain ⟨i, hi⟩ := List.mem_iff_getElem?.1 hy
    have hlt : i < ks.length := by rw [h.len]; exact (List.getElem?_eq_some_iff.1 hi).1
    exact (h.each i y _ hi (List.getElem?_eq_getElem hlt)).ok
  · have := h.blk
    rw [this]
    rcases hk with rfl | rfl <;> rfl
end
theorem rf_up {w : World} {S : Nat → Prop} : ∀ {d : Nat} {t : Ft} {b : Nat}, RfAt w S d t b → RfAt w S (d + 1) t b
  | 0, _, _, h => h.elim
  | d + 1, t, b, h => by
    obtain ⟨h0, hS, sl, ks, hb, hsl, hseg, hl, hel⟩ := h
    exact ⟨okF_up _ _ h0, hS, sl, ks, hb, hsl, hseg, hl, fun i y u h1 h2 => rf_up (hel i y u h1 h2)⟩
/-- What Inside leaves. -/
def RiP (S : Nat → Prop) (w : World) (D : Nat) (t : Ft) (e : Ending) (w' : World) : Prop := ∃ b', e = .returned (.pointer (some ⟨b', 0, none⟩)) ∧ RfAt w' (fun j => S j ∨ w.heap.size ≤ j) D t b' ∧ Below w.heap.size w w'
set_option maxRecDepth 100000 in
theorem ri_leaf {d b : Nat} {S : Nat → Prop} {t : Ft} {kd : List UInt8} {f lo hi : Int} {sl : Value} (no : Bool) (w : World) (h : RfAt w S (d + 1) t b) (ht : t.k < 3) (hb : w.heap[b]? = some (.cells #[.string ⟨kd.toArray⟩, .int .i64 f, .int .i64 lo, .int .i64 hi, sl] 63 (0, 0))) (n1 : (kd == [110, 111, 116]) = false) (n2 : (kd == [97, 110, 100]) = false) (n3 : (kd == [111, 114]) = false) :
    Calls Tryz.prog 10 #[.pointer (some ⟨b, 0, none⟩), .bool no] w fun e w' => RiP S w (d + 2) (turn (d + 1) no t) e w' := by
  obtain ⟨c0, c4, -, -⟩ := cells5i hb
  have HT : Hid (turn (d + 1) no t = if no then notT t else t) := by show _ = _; rw [turn, if_pos ht]
  rw [HT.out]
  have hok := h.ok
  have H : Hid (RfAt w S (d + 1) t b) := h
  clear h
  cases no
  · go_enter Tryz.func10, Tryz.ntmps10
    go_wp2
    go_ret
    refine ⟨b, rfl, ?_, Below.refl _ _⟩
    exact (rf_up H.out).sub fun k hk => Or.inl hk
  · go_enter Tryz.func10, Tryz.ntmps10
    go_wp2
    go_ret
    have hb1 : Below w.heap.size w (w.alloc (.cells #[.pointer (some ⟨b, 0, none⟩)] 22)) := below_alloc_ (Below.refl _ _) _
    have hb2 : Below w.heap.size w ((w.alloc (.cells #[.pointer (some ⟨b, 0, none⟩)] 22)).alloc (.cells #[.string ⟨#[110, 111, 116]⟩, .int .i64 0, .int .i64 0, .int .i64 0, .slice (some ⟨w.heap.size, 0, none⟩) 1 1] 63)) := below_alloc_ hb1 _
    have kr : ((w.alloc (.cells #[.pointer (some ⟨b, 0, none⟩)] 22)).alloc (.cells #[.string ⟨#[110, 111, 116]⟩, .int .i64 0, .int .i64 0, .int .i64 0, .slice (some ⟨w.heap.size, 0, none⟩) 1 1] 63)).heap[w.heap.size]? = some (.cells #[ptrV b] 22 (0, 0)) := (Below.heap_alloc _ _ _ (by simp)).trans (new_block _ _)
    refine ⟨(w.alloc (.cells #[.pointer (some ⟨b, 0, none⟩)] 22)).heap.size, by simp, ⟨Or.inr (Or.inr (Or.inr (Or.inl ⟨t, rfl, hok⟩))), Or.inr hb1.size, .slice (some ⟨w.heap.size, 0, none⟩) 1 1, [b], new_block _ _, fun j hj => ?_, ?_, rfl, fun i y k h1 h2 => ?_⟩, hb2⟩
    · simp only [Value.ownBlock, Option.some.injEq] at hj
      subst hj
      exact Or.inr (Nat.le_refl _)
    · show Seg _ _ 1 _ 1 ([b].map ptrV)
      exact ⟨rfl, Or.inr ⟨w.heap.size, 0, 1, _, rfl, kr, by decide, by decide, by simp, fun j u hj => by simpa using hj⟩⟩
    · match i, h1, h2 with
      | 0, h1, h2 =>
        obtain rfl := Option.some.inj h1
        obtain rfl := Option.some.inj h2
        exact (H.out.below hb2).sub fun k hk => Or.inl hk
end Go.Proofs.YtibecinojkkjpaaGreatDoor
