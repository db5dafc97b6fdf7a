/-
  The reference's Bands over whatever queues of the reference: where it lies. Conditions: the queues' methods do what models of them tell (a premise).
-/
import Derived.Test.YtpjhiioecigfhaaDoorRm
import Derived.Test.YtpjhiioecigfhaaDoorBn
namespace Go.Proofs.YtpjhiioecigfhaaDoor
open Go.RowKit Go.Extern.Stop Go.Stop Go.Extern

/-- One of many states is another one. -/
def rupd {Q : Nat → RM} (s : ∀ i, (Q i).σ) (j : Nat) (x : (Q j).σ) : ∀ i, (Q i).σ := fun i => if h : i = j then h ▸ x else s i
theorem rupd_same {Q : Nat → RM} (s : ∀ i, (Q i).σ) (j : Nat) (x : (Q j).σ) : rupd s j x j = x := by simp [rupd]
theorem rupd_ne {Q : Nat → RM} (s : ∀ i, (Q i).σ) {i j : Nat} (x : (Q j).σ) (h : i ≠ j) : rupd s j x i = s i := by simp [rupd, h]
/-- Bands in block B; the row of its queues from ⟨ob, oo⟩ on. -/
structure RBAt (Q : Nat → RM) (N B ob oo oc : Nat) (w : World) (Fs : Nat → Nat → Prop) (s : ∀ i, (Q i).σ) : Prop where
  blk : w.heap[B]? = some (.cells #[.slice (some ⟨ob, oo, none⟩) N oc] 28 (0, 0))
  row : ∀ i, i < N → w.cell? ⟨ob, oo + i, none⟩ = some (.iface (Q i).ty (Q i).rv)
  obl : ob < w.heap.size
  each : ∀ i, i < N → (Q i).At w (Fs i) (s i)
  dis : ∀ i j k, i < N → j < N → Fs i k → Fs j k → i = j
  nB : ∀ i, i < N → ¬ Fs i B ∧ ¬ Fs i ob
theorem RBAt.kept {Q : Nat → RM} {N B ob oo oc : Nat} {w w' : World} {Fs : Nat → Nat → Prop} {s : ∀ i, (Q i).σ} (hQ : ∀ i, i < N → (Q i).Fine) (h : RBAt Q N B ob oo oc w Fs s) (hk : ∀ k, foot N B ob Fs k → w'.heap[k]? = w.heap[k]?) : RBAt Q N B ob oo oc w' Fs s := by
  refine ⟨(hk B (Or.inl rfl)).trans h.blk, fun i hi => ?_, ?_, fun i hi => (hQ i hi).kept (h.each i hi) (fun k hf => hk k (Or.inr (Or.inr ⟨i, hi, hf⟩))), h.dis, h.nB⟩
  · rw [World.cell?_of_block (w := w) (a := ⟨ob, oo + i, none⟩) (hk ob (Or.inr (Or.inl rfl)))]
    exact h.row i hi
  · have h1 := hk ob (Or.inr (Or.inl rfl))
    rw [Array.getElem?_eq_getElem h.obl] at h1
    exact lt_of_block h1
theorem RBAt.low {Q : Nat → RM} {N B ob oo oc : Nat} {w : World} {Fs : Nat → Nat → Prop} {s : ∀ i, (Q i).σ} (hQ : ∀ i, i < N → (Q i).Fine) (h : RBAt Q N B ob oo oc w Fs s) : ∀ k, foot N B ob Fs k → k < w.heap.size := by
  rintro k (rfl | rfl | ⟨i, hi, hf⟩)
  · exact lt_of_block h.blk
  · exact h.obl
  · exact (hQ i hi).low (h.each i hi) k hf
theorem RBAt.below {Q : Nat → RM} {N B ob oo oc : Nat} {w w' : World} {Fs : Nat → Nat → Prop} {s : ∀ i, (Q i).σ} (hQ : ∀ i, i < N → (Q i).Fine) (h : RBAt Q N B ob oo oc w Fs s) (hb : Below w.heap.size w w') : RBAt Q N B ob oo oc w' Fs s := h.kept hQ (fun k hk => hb.block k (h.low hQ k hk))
theorem RBAt.ot {S : Nat → Prop} {Q : Nat → RM} {N B ob oo oc : Nat} {w w' : World} {Fs : Nat → Nat → Prop} {s : ∀ i, (Q i).σ} (hQ : ∀ i, i < N → (Q i).Fine) (h : RBAt Q N B ob oo oc w Fs s) (ho : Ot S w w') (hS : ∀ k, foot N B ob Fs k → ¬ S k) : RBAt Q N B ob oo oc w' Fs s := h.kept hQ (fun k hk => ho.block k (h.low hQ k hk) (hS k hk))
/-- One of the queues was asked. -/
theorem RBAt.step {Q : Nat → RM} {N B ob oo oc : Nat} {w w' : World} {Fs : Nat → Nat → Prop} {s : ∀ i, (Q i).σ} (hQ : ∀ i, i < N → (Q i).Fine) (h : RBAt Q N B ob oo oc w Fs s) {j : Nat} (hj : j < N) {F' : Nat → Prop} {x : (Q j).σ} (ho : Ot (Fs j) w w') (ha : (Q j).At w' F' x) (hf : ∀ k, F' k → Fs j k ∨ w.heap.size ≤ k) :
    RBAt Q N B ob oo oc w' (updF Fs j F') (rupd s j x) ∧ (∀ k, foot N B ob (updF Fs j F') k → foot N B ob Fs k ∨ w.heap.size ≤ k) ∧ Ot (foot N B ob Fs) w w' := by
  have hlow := h.low hQ
  have hlB := lt_of_block h.blk
  refine ⟨⟨(ho.block B hlB (h.nB j hj).1).trans h.blk, fun i hi => ?_, Nat.lt_of_lt_of_le h.obl ho.size, fun i hi => ?_, fun i i' k hi hi' => ?_, fun i hi => ?_⟩, ?_, ho.mono (fun k _ hk => Or.inr (Or.inr ⟨j, hj, hk⟩))⟩
  · rw [World.cell?_of_block (w := w) (a := ⟨ob, oo + i, none⟩) (ho.block ob h.obl (h.nB j hj).2)]
    exact h.row i hi
  · by_cases e : i = j
    · subst e
      simpa [updF, rupd_same] using ha
    · rw [rupd_ne s x e]
      simp only [updF, if_neg e]
      exact (hQ i hi).kept (h.each i hi) (fun k hk => ho.block k ((hQ i hi).low (h.each i hi) k hk) (fun hk' => e (h.dis i j k hi hj hk hk')))
  · intro h1 h2
    simp only [updF] at h1 h2
    by_cases e : i = j
    · by_cases e' : i' = j
      · rw [e, e']
      · rw [if_pos e] at h1
        rw [if_neg e'] at h2
        rcases hf k h1 with h3 | h3
        · rw [e]; exact h.dis j i' k hj hi' h3 h2
        · have := (hQ i' hi').low (h.each i' hi') k h2; omega
    · rw [if_neg e] at h1
      by_cases e' : i' = j
      · rw [if_pos e'] at h2
        rcases hf k h2 with h3 | h3
        · rw [e']; exact h.dis i j k hi hj h1 h3
        · have := (hQ i hi).low (h.each i hi) k h1; omega
      · rw [if_neg e'] at h2
        exact h.dis i i' k hi hi' h1 h2
  · simp only [updF]
    by_cases e : i = j
    · rw [if_pos e]
      refine ⟨fun hk => ?_, fun hk => ?_⟩
      · rcases hf _ hk with h3 | h3
        · exact (h.nB j hj).1 h3
        · omega
      · rcases hf _ hk with h3 | h3
        · exact (h.nB j hj).2 h3
        · have := h.obl; omega
    · rw [if_neg e]
      exact h.nB i hi
  · rintro k (h1 | h1 | ⟨i, hi, h1⟩)
    · exact Or.inl (Or.inl h1)
    · exact Or.inl (Or.inr (Or.inl h1))
    · simp only [updF] at h1
      by_cases e : i = j
      · rw [if_pos e] at h1
        rcases hf k h1 with h2 | h2
        · exact Or.inl (Or.inr (Or.inr ⟨j, hj, h2⟩))
        · exact Or.inr h2
      · rw [if_neg e] at h1
        exact Or.inl (Or.inr (Or.inr ⟨i, hi, h1⟩))
theorem RBAt.cell {Q : Nat → RM} {N B ob oo oc : Nat} {w : World} {Fs : Nat → Nat → Prop} {s : ∀ i, (Q i).σ} (h : RBAt Q N B ob oo oc w Fs s) : w.cell? ⟨B, 0, none⟩ = some (.slice (some ⟨ob, oo, none⟩) N oc) := by
  have := h.blk
  simp [World.cell?, this]

end Go.Proofs.YtpjhiioecigfhaaDoor
