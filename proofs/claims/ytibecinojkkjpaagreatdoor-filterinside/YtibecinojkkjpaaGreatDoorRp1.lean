/-
  millraceref.signs: a text cut into its signs, in a parser in new memory. Conditions: millraceref.Fine is as it is laid; the text has at most 2000 bytes.
-/
import Derived.Test.YtibecinojkkjpaaGreatDoorRp0
namespace Go.Proofs.YtibecinojkkjpaaGreatDoor
open Go.RowKit Go.Extern.Stop Go.Stop Go.Extern

/-- millraceref.Fine is laid. -/
def GFine (w : World) : Prop := w.cell? ⟨1, 0, none⟩ = some (.int .i64 0) ∧ w.cell? ⟨1, 1, none⟩ = some (.int .i64 (-1))
theorem infoRSign : (Tryz.prog.info? 70).map (fun i => (i.zero, i.size, i.bytes)) = some (some (.agg #[.string ⟨#[]⟩, .int .i64 0]), 2, 24) := by kernel_rfl
/-- Blanks and marks. -/
def mkA : List UInt8 := [32, 40, 41]
/-- How far the text is cut: behind i bytes; a word that began at wd is under way (none: -1). -/
def WdI (l : List UInt8) (i : Nat) (wd : Int) (acc : List (List UInt8 × Nat)) : Prop :=
  (wd = -1 ∧ acc ++ signsL mkA (l.drop i) i = signsL mkA l 0) ∨ ∃ j : Nat, wd = j ∧ j < i ∧ i ≤ l.length ∧ acc ++ signsL mkA (l.drop j) j = signsL mkA l 0 ∧ ∀ k b, j ≤ k → k < i → l[k]? = some b → mkA.contains b = false
theorem WdI.plain {l : List UInt8} {i : Nat} {wd : Int} {acc : List (List UInt8 × Nat)} (h : WdI l i wd acc) {b : UInt8} (hb : l[i]? = some b) (hp : mkA.contains b = false) : WdI l (i + 1) (if wd < 0 then (i : Int) else wd) acc := by
  have hi := (List.getElem?_eq_some_iff.1 hb).1
  rcases h with ⟨rfl, h⟩ | ⟨j, rfl, h1, h2, h3, h4⟩
  · exact Or.inr ⟨i, by simp, by omega, by omega, h, fun k c hk hk2 hc => by
      obtain rfl : k = i := by omega
      rw [hb] at hc; cases hc; exact hp⟩
  · refine Or.inr ⟨j, by rw [if_neg (by omega)], by omega, by omega, h3, fun k c hk hk2 hc => ?_⟩
    by_cases e : k = i
    · subst e; rw [hb] at hc; cases hc; exact hp
    · exact h4 k c hk (by omega) hc
/-- A word is through. -/
theorem WdI.word {l : List UInt8} {i j : Nat} {acc : List (List UInt8 × Nat)} (h : WdI l i (j : Int) acc) (he : i = l.length ∨ ∃ b, l[i]? = some b ∧ mkA.contains b = true) : j < i ∧ i ≤ l.length ∧ WdI l i (-1) (acc ++ [((l.drop j).take (i - j), j)]) := by
  rcases h with ⟨h, _⟩ | ⟨j', hj, h1, h2, h3, h4⟩
  · omega
  · obtain rfl : j = j' := by omega
    refine ⟨h1, h2, Or.inl ⟨rfl, ?_⟩⟩
    have := signs_word (al := mkA) (l := l.drop j) (p := j) (k := i - j) (by omega) (by rw [List.length_drop]; omega) rfl (fun k b hk hb => h4 (j + k) b (by omega) (by omega) (by rw [List.getElem?_drop] at hb; exact hb)) (by
      rcases he with he | ⟨b, hb, hc⟩
      · left; rw [List.length_drop]; omega
      · right; exact ⟨b, by rw [List.getElem?_drop, show j + (i - j) = i by omega]; exact hb, hc⟩)
    rw [this, List.drop_drop, show j + (i - j) = i by omega] at h3
    rw [List.append_assoc]
    exact h3
theorem WdI.blank {l : List UInt8} {i : Nat} {acc : List (List UInt8 × Nat)} (h : WdI l i (-1) acc) (hb : l[i]? = some 32) : WdI l (i + 1) (-1) acc := by
  rcases h with ⟨_, h⟩ | ⟨j, h, _⟩
  · have := signs_sep (al := mkA) (l := l.drop i) (p := i) (b := 32) (by rw [List.getElem?_drop]; simpa using hb) rfl
    rw [this, List.drop_drop] at h
    exact Or.inl ⟨rfl, by simpa using h⟩
  · omega
theorem WdI.mark {l : List UInt8} {i : Nat} {acc : List (List UInt8 × Nat)} {b : UInt8} (h : WdI l i (-1) acc) (hb : l[i]? = some b) (hc : mkA.contains b = true) (h32 : b ≠ 32) : WdI l (i + 1) (-1) (acc ++ [([b], i)]) := by
  rcases h with ⟨_, h⟩ | ⟨j, h, _⟩
  · have := signs_sep (al := mkA) (l := l.drop i) (p := i) (b := b) (by rw [List.getElem?_drop]; simpa using hb) hc
    rw [this, if_neg h32, List.drop_drop] at h
    exact Or.inl ⟨rfl, by simpa using h⟩
  · omega
theorem WdI.fin {l : List UInt8} {acc : List (List UInt8 × Nat)} (h : WdI l l.length (-1) acc) : WdI l (l.length + 1) (-1) acc := by
  rcases h with ⟨_, h⟩ | ⟨j, h, _⟩
  · rw [List.drop_eq_nil_of_le (Nat.le_refl _)] at h
    exact Or.inl ⟨rfl, by rw [List.drop_eq_nil_of_le (by omega)]; exact h⟩
  · omega
/-- One sign more. -/
theorem PsAt.push {wr W w1 : World} {pb n : Nat} {v : Value} {L : List (List UInt8 × Nat)} (h : PsAt wr pb n 0 (-1) v L) (x : List UInt8 × Nat) {g off cap H : Nat} (hW : Below wr.heap.size wr W) (hg1 : W.grownBy w1 v.ownBlock) (ha : v.ownBlock = some g ∨ H ≤ g) (hH : pb < H)
    (hs1 : Seg w1 70 2 (.slice (some ⟨g, off, none⟩) (L.length + 1) cap) (L.length + 1) (flt sgc L ++ sgc x)) :
    (w1.cell? ⟨pb, 0, none⟩ = some v ∧ w1.frozen? ⟨pb, 0, none⟩ = false) ∧ PsAt (w1.setCell ⟨pb, 0, none⟩ (.slice (some ⟨g, off, none⟩) (L.length + 1) cap)) pb n 0 (-1) (.slice (some ⟨g, off, none⟩) (L.length + 1) cap) (L ++ [x]) := by
  have hl := h.lt
  have hb : w1.heap[pb]? = some (.cells #[v, .int .i64 n, .int .i64 0, .int .i64 (-1), .int .i64 0] 45 (0, 0)) := by
    rw [hg1.block pb (by have := hW.size; omega) (fun e => h.ne e.symm), hW.block pb hl]
    exact h.blk
  have hgp : g ≠ pb := by
    rintro rfl
    rcases ha with ha | ha
    · exact h.ne ha
    · omega
  refine ⟨⟨by simp [World.cell?, hb], by simp [World.frozen?, hb]⟩, ⟨by rw [heap_setCell_here hb]; simp, ?_, by simpa [Value.ownBlock] using hgp⟩⟩
  rw [List.length_append, flt_append, flt_one]
  exact hs1.setCell (p := ⟨pb, 0, none⟩) (by simpa [Value.ownBlock] using hgp) _
end Go.Proofs.YtibecinojkkjpaaGreatDoor
