/-
  shaper.New; what the law ShaperConforms keeps in memory. Conditions: none beyond a bucket that may be.
-/
import Derived.Test.YtkagmddckglkdaaDoorSp5
import Derived.Test.YtkagmddckglkdaaDoorBkCf
import Derived.Test.YtkagmddckglkdaaDoorPoured
import Derived.Test.YtkagmddckglkdaaDoorFlat
namespace Go.Proofs.YtkagmddckglkdaaDoor
open Go.RowKit Go.Extern.Stop Go.Stop Go.Extern

theorem snew_no (n t R : Int) (ty : TypeId) (rv : Value) (w : World) (h : ¬ okB n t R) :
    Calls Tryd.prog 9 #[.agg #[.int .i64 n, .int .i64 t, .int .i64 R], .iface ty rv] w fun e w' => e = .returned (.tuple #[.pointer none, .iface 71 (.int .i64 2)]) ∧ Below w.heap.size w w' := by
  have H : Hid (¬ okB n t R) := h
  clear h
  go_enter Tryd.func9, Tryd.ntmps9
  go_wp2_with (go_at_call 22; refine (new_no _ _ _ _ H.out).mono ?_; rintro e w1 ⟨rfl, hb1⟩)
  go_ret2
  exact ⟨rfl, ((Below.refl _ _).alloc (Nat.le_refl _) _).trans (hb1.mono (by simp))⟩
theorem snew_yes (n t R : Int) (ty : TypeId) (rv : Value) (w : World) (h : okB n t R) :
    Calls Tryd.prog 9 #[.agg #[.int .i64 n, .int .i64 t, .int .i64 R], .iface ty rv] w fun e w' => ∃ B, e = .returned (.tuple #[.pointer (some ⟨B, 0, none⟩), .nilIface]) ∧ w.heap.size < B ∧ StG w' B 1 [.iface ty rv] (shPost hd0 false) 85 n t R (R * t) 0 ∧ Below w.heap.size w w' := by
  have H : Hid (okB n t R) := h
  clear h
  go_enter Tryd.func9, Tryd.ntmps9
  go_wp2_with fail
  refine (new_yes _ _ _ _ H.out).mono ?_
  rintro e w1 ⟨s, rfl, hs, hst, hb1⟩
  have hB : Below w.heap.size w w1 := ((Below.refl _ _).alloc (Nat.le_refl _) _).trans (hb1.mono (by simp))
  have hlt := hst.lt
  obtain ⟨c0, c1, c2, c3, c4, _, _⟩ := hst.cells
  clear hst
  go_wp2
  go_ret2
  exact ⟨_, rfl, by simp at hs; omega, ⟨rfl, new_block _ _⟩, hB.alloc hB.size _⟩

/-- Packets lie in a slice of the call's own. -/
def itCs (x : It) : List Value := [.int .i64 x.a, .int .i64 x.l, .int .i64 x.f, .int .i64 x.b, .int .i64 x.m]
theorem itCs_len (x : It) : (itCs x).length = 5 := rfl
def Its (w : World) (v : Value) (L : List It) : Prop := Seg w 43 5 v L.length (flt itCs L)
theorem infoItem : (Tryd.prog.info? 43).map (fun i => (i.zero, i.size, i.bytes)) = some (some (.agg #[.int .i64 0, .int .i64 0, .int .i64 0, .int .i64 0, .int .i64 0]), 5, 40) := by kernel_rfl
theorem Its.items {w : World} {v : Value} {L : List It} (h : Its w v L) : ∃ x cap, v = .slice x L.length cap ∧ ItemsAt w x L := by
  rcases Seg.form h with ⟨rfl, h0, _⟩ | ⟨b, off, cap, rfl, _, _, hb, hc⟩
  · exact ⟨none, 0, by rw [h0], Or.inl (List.length_eq_zero_iff.1 h0)⟩
  · refine ⟨_, _, rfl, Or.inr ⟨b, off, rfl, fun i x hx => ?_⟩⟩
    have hat : ∀ j, j < 5 → (flt itCs L)[i * 5 + j]? = (itCs x)[j]? := fun j hj => flt_at itCs 5 itCs_len hx hj
    exact ⟨hc _ _ (hat 0 (by omega)), hc _ _ (hat 1 (by omega)), hc _ _ (hat 2 (by omega)), hc _ _ (hat 3 (by omega)), hc _ _ (hat 4 (by omega))⟩
/-- The law's two rows, apart, in memory of the call's own. -/
structure ShR (w5 : World) (B : Nat) (lv gv : Value) (L : List Int) (G : List It) (wr : World) : Prop where
  lens : Ins wr lv L
  gone : Its wr gv G
  ln : ∀ b, lv.ownBlock = some b → B ≤ b
  gn : ∀ b, gv.ownBlock = some b → B ≤ b
  ne : ∀ b, lv.ownBlock = some b → gv.ownBlock ≠ some b
  below : Below B w5 wr
  size : B ≤ wr.heap.size
theorem ShR.lens_app {w5 : World} {B : Nat} {lv gv : Value} {L : List Int} {G : List It} {wr w6 : World} (h : ShR w5 B lv gv L G wr) {o : Obj} {l : Int} {g off cap : Nat} (hs : Seg w6 3 1 (.slice (some ⟨g, off, none⟩) (L.length + 1) cap) (L.length + 1) (L.map (Value.int .i64) ++ [.int .i64 l])) (hg : (wr.alloc o).grownBy w6 lv.ownBlock) (ha : lv.ownBlock = some g ∨ wr.heap.size + 1 ≤ g) : ShR w5 B (.slice (some ⟨g, off, none⟩) (L.length + 1) cap) gv (L ++ [l]) G w6 := by
  have hsz := h.size
  have hb6 : Below B wr w6 := ((Below.refl B wr).alloc hsz o).grown hg (by simp; omega) (fun b hb => h.ln b hb)
  refine ⟨by unfold Ins; simpa using hs, Seg.kept h.gone (fun b hb => ?_), ?_, h.gn, ?_, h.below.trans hb6, Nat.le_trans hsz hb6.size⟩
  · have hlt := Seg.lt h.gone hb
    rw [hg.block b (by simp; omega) (fun e => h.ne b e.symm hb), Below.heap_alloc _ _ _ hlt]
  · intro b hb
    simp only [Value.ownBlock, Option.some.injEq] at hb
    subst hb
    rcases ha with ha | ha
    · exact h.ln _ ha
    · omega
  · intro b hb hb2
    simp only [Value.ownBlock, Option.some.injEq] at hb
    subst hb
    rcases ha with ha | ha
    · exact h.ne _ ha hb2
    · have := Seg.lt h.gone hb2; omega
theorem ShR.gone_app {w5 : World} {B : Nat} {lv gv : Value} {L : List Int} {G : List It} {wr W w6 : World} (h : ShR w5 B lv gv L G wr) (hW : Below wr.heap.size wr W) {x : It} {g off cap : Nat} (hs : Seg w6 43 5 (.slice (some ⟨g, off, none⟩) (G.length + 1) cap) (G.length + 1) (flt itCs G ++ itCs x)) (hg : W.grownBy w6 gv.ownBlock) (ha : gv.ownBlock = some g ∨ wr.heap.size ≤ g) : ShR w5 B lv (.slice (some ⟨g, off, none⟩) (G.length + 1) cap) L (G ++ [x]) w6 := by
  have hsz := h.size
  have hb6 : Below B wr w6 := (hW.mono hsz).grown hg (by have := hW.size; omega) (fun b hb => h.gn b hb)
  refine ⟨Seg.kept h.lens (fun b hb => ?_), by unfold Its; rw [flt_append, flt_one]; simpa using hs, h.ln, ?_, ?_, h.below.trans hb6, Nat.le_trans hsz hb6.size⟩
  · have hlt := Seg.lt h.lens hb
    rw [hg.block b (by have := hW.size; omega) (fun e => h.ne b hb e.symm), hW.block b hlt]
  · intro b hb
    simp only [Value.ownBlock, Option.some.injEq] at hb
    subst hb
    rcases ha with ha | ha
    · exact h.gn _ ha
    · omega
  · intro b hb hb2
    simp only [Value.ownBlock, Option.some.injEq] at hb2
    subst hb2
    rcases ha with ha | ha
    · exact h.ne _ hb ha
    · have := Seg.lt h.lens hb; omega
theorem ShR.drewN {w5 : World} {B : Nat} {lv gv : Value} {L : List Int} {G : List It} {wr : World} (h : ShR w5 B lv gv L G wr) (n : Nat) : ShR w5 B lv gv L G (wr.drewN n) := ⟨h.lens, h.gone, h.ln, h.gn, h.ne, below_drewN_ h.below n, h.size⟩
end Go.Proofs.YtkagmddckglkdaaDoor
