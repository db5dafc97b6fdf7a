/-
  queue.Bands over whatever queues: what its methods return, and what each leaves. Conditions: the queues' methods do what models of them tell (a premise); one band at least, eight at most.
-/
import Derived.Test.YticplgdfgckicaaGreatDoorPl
namespace Go.Proofs.YticplgdfgckicaaGreatDoor
open Go.RowKit Go.Extern.Stop Go.Stop Go.Extern

/-- One of many states is another one. -/
def upd {Q : Nat → QM} (s : ∀ i, (Q i).σ) (j : Nat) (x : (Q j).σ) : ∀ i, (Q i).σ := fun i => if h : i = j then h ▸ x else s i
theorem upd_same {Q : Nat → QM} (s : ∀ i, (Q i).σ) (j : Nat) (x : (Q j).σ) : upd s j x j = x := by simp [upd]
theorem upd_ne {Q : Nat → QM} (s : ∀ i, (Q i).σ) {i j : Nat} (x : (Q j).σ) (h : i ≠ j) : upd s j x i = s i := by simp [upd, h]
def updF (Fs : Nat → Nat → Prop) (j : Nat) (F : Nat → Prop) : Nat → Nat → Prop := fun i => if i = j then F else Fs i
/-- Bands in block B; the row of its queues from ⟨ob, oo⟩ on. -/
structure BAt (Q : Nat → QM) (N B ob oo oc : Nat) (w : World) (Fs : Nat → Nat → Prop) (s : ∀ i, (Q i).σ) : Prop where
  blk : w.heap[B]? = some (.cells #[.slice (some ⟨ob, oo, none⟩) N oc] 174 (0, 0))
  row : ∀ i, i < N → w.cell? ⟨ob, oo + i, none⟩ = some (.iface (Q i).ty (Q i).rv)
  obl : ob < w.heap.size
  each : ∀ i, i < N → (Q i).At w (Fs i) (s i)
  dis : ∀ i j k, i < N → j < N → Fs i k → Fs j k → i = j
  nB : ∀ i, i < N → ¬ Fs i B ∧ ¬ Fs i ob
def foot (N B ob : Nat) (Fs : Nat → Nat → Prop) (k : Nat) : Prop := k = B ∨ k = ob ∨ ∃ i, i < N ∧ Fs i k
theorem BAt.kept {Q : Nat → QM} {N B ob oo oc : Nat} {w w' : World} {Fs : Nat → Nat → Prop} {s : ∀ i, (Q i).σ} (hQ : ∀ i, i < N → (Q i).Fine) (h : BAt Q N B ob oo oc w Fs s) (hk : ∀ k, foot N B ob Fs k → w'.heap[k]? = w.heap[k]?) : BAt Q N B ob oo oc w' Fs s := by
  refine ⟨(hk B (Or.inl rfl)).trans h.blk, fun i hi => ?_, ?_, fun i hi => (hQ i hi).kept (h.each i hi) (fun k hf => hk k (Or.inr (Or.inr ⟨i, hi, hf⟩))), h.dis, h.nB⟩
  · rw [World.cell?_of_block (w := w) (a := ⟨ob, oo + i, none⟩) (hk ob (Or.inr (Or.inl rfl)))]
    exact h.row i hi
  · have h1 := hk ob (Or.inr (Or.inl rfl))
    rw [Array.getElem?_eq_getElem h.obl] at h1
    exact lt_of_block h1
theorem BAt.low {Q : Nat → QM} {N B ob oo oc : Nat} {w : World} {Fs : Nat → Nat → Prop} {s : ∀ i, (Q i).σ} (hQ : ∀ i, i < N → (Q i).Fine) (h : BAt Q N B ob oo oc w Fs s) : ∀ k, foot N B ob Fs k → k < w.heap.size := by
  rintro k (rfl | rfl | ⟨i, hi, hf⟩)
  · exact lt_of_block h.blk
  · exact h.obl
  · exact (hQ i hi).low (h.each i hi) k hf
theorem BAt.below {Q : Nat → QM} {N B ob oo oc : Nat} {w w' : World} {Fs : Nat → Nat → Prop} {s : ∀ i, (Q i).σ} (hQ : ∀ i, i < N → (Q i).Fine) (h : BAt Q N B ob oo oc w Fs s) (hb : Below w.heap.size w w') : BAt Q N B ob oo oc w' Fs s := h.kept hQ (fun k hk => hb.block k (h.low hQ k hk))
theorem BAt.ot {S : Nat → Prop} {Q : Nat → QM} {N B ob oo oc : Nat} {w w' : World} {Fs : Nat → Nat → Prop} {s : ∀ i, (Q i).σ} (hQ : ∀ i, i < N → (Q i).Fine) (h : BAt Q N B ob oo oc w Fs s) (ho : Ot S w w') (hS : ∀ k, foot N B ob Fs k → ¬ S k) : BAt Q N B ob oo oc w' Fs s := h.kept hQ (fun k hk => ho.block k (h.low hQ k hk) (hS k hk))
/-- One of the queues was asked. -/
theorem BAt.step {Q : Nat → QM} {N B ob oo oc : Nat} {w w' : World} {Fs : Nat → Nat → Prop} {s : ∀ i, (Q i).σ} (hQ : ∀ i, i < N → (Q i).Fine) (h : BAt Q N B ob oo oc w Fs s) {j : Nat} (hj : j < N) {F' : Nat → Prop} {x : (Q j).σ} (ho : Ot (Fs j) w w') (ha : (Q j).At w' F' x) (hf : ∀ k, F' k → Fs j k ∨ w.heap.size ≤ k) :
    BAt Q N B ob oo oc w' (updF Fs j F') (upd s j x) ∧ (∀ k, foot N B ob (updF Fs j F') k → foot N B ob Fs k ∨ w.heap.size ≤ k) ∧ Ot (foot N B ob Fs) w w' := by
  have hlow := h.low hQ
  have hlB := lt_of_block h.blk
  refine ⟨⟨(ho.block B hlB (h.nB j hj).1).trans h.blk, fun i hi => ?_, Nat.lt_of_lt_of_le h.obl ho.size, fun i hi => ?_, fun i i' k hi hi' => ?_, fun i hi => ?_⟩, ?_, ho.mono (fun k _ hk => Or.inr (Or.inr ⟨j, hj, hk⟩))⟩
  · rw [World.cell?_of_block (w := w) (a := ⟨ob, oo + i, none⟩) (ho.block ob h.obl (h.nB j hj).2)]
    exact h.row i hi
  · by_cases e : i = j
    · subst e
      simpa [updF, upd_same] using ha
    · rw [upd_ne s x e]
      simp only [updF, if_neg e]
      exact (hQ i hi).kept (h.each i hi) (fun k hk => ho.block k ((hQ i hi).low (h.each i hi) k hk) (fun hk' => e (h.dis i j k hi hj hk hk')))
  · intro h1 h2
    simp only [updF] at h1 h2
    by_cases e : i = j
    · by_cases e' : i' = j
      · rw [e, e']
      · rw [if_pos e] at h1
        rw [if_neg e'] at h2
        rcases hf k h1 with h3 | h3
        · rw [e]; exact h.dis j i' k hj hi' h3 h2
        · have := (hQ i' hi').low (h.each i' hi') k h2; omega
    · rw [if_neg e] at h1
      by_cases e' : i' = j
      · rw [if_pos e'] at h2
        rcases hf k h2 with h3 | h3
        · rw [e']; exact h.dis i j k hi hj h1 h3
        · have := (hQ i hi).low (h.each i hi) k h1; omega
      · rw [if_neg e'] at h2
        exact h.dis i i' k hi hi' h1 h2
  · simp only [updF]
    by_cases e : i = j
    · rw [if_pos e]
      refine ⟨fun hk => ?_, fun hk => ?_⟩
      · rcases hf _ hk with h3 | h3
        · exact (h.nB j hj).1 h3
        · omega
      · rcases hf _ hk with h3 | h3
        · exact (h.nB j hj).2 h3
        · have := h.obl; omega
    · rw [if_neg e]
      exact h.nB i hi
  · rintro k (h1 | h1 | ⟨i, hi, h1⟩)
    · exact Or.inl (Or.inl h1)
    · exact Or.inl (Or.inr (Or.inl h1))
    · simp only [updF] at h1
      by_cases e : i = j
      · rw [if_pos e] at h1
        rcases hf k h1 with h2 | h2
        · exact Or.inl (Or.inr (Or.inr ⟨j, hj, h2⟩))
        · exact Or.inr h2
      · rw [if_neg e] at h1
        exact Or.inl (Or.inr (Or.inr ⟨i, hi, h1⟩))
theorem BAt.cell {Q : Nat → QM} {N B ob oo oc : Nat} {w : World} {Fs : Nat → Nat → Prop} {s : ∀ i, (Q i).σ} (h : BAt Q N B ob oo oc w Fs s) : w.cell? ⟨B, 0, none⟩ = some (.slice (some ⟨ob, oo, none⟩) N oc) := by
  have := h.blk
  simp [World.cell?, this]

set_option maxHeartbeats 1000000 in
/-- each: with a function that keeps to an invariant. -/
theorem each_any {Q : Nat → QM} {N B ob oo oc : Nat} (cf : Nat) (caps : Array Value) (I : Nat → World → Prop) (w : World) (hN : N ≤ 8) (hc : w.cell? ⟨B, 0, none⟩ = some (.slice (some ⟨ob, oo, none⟩) N oc))
    (hent : ∀ (args : Array Value) (W : World), (callFunc cf args).run Tryz.prog W = .ok (.enter cf args) W) (h0 : I 0 w) (hrow : ∀ i W, i < N → I i W → W.cell? ⟨ob, oo + i, none⟩ = some (.iface (Q i).ty (Q i).rv))
    (hstep : ∀ i W, i < N → I i W → Calls Tryz.prog cf (#[.iface (Q i).ty (Q i).rv] ++ caps) W fun e W' => e = .returned (.tuple #[]) ∧ I (i + 1) W') :
    Calls Tryz.prog 199 #[.pointer (some ⟨B, 0, none⟩), .func (.func cf) #[] caps] w fun e w' => e = .returned (.tuple #[]) ∧ I N w' := by
  have H0 : Hid (I 0 w) := h0
  have HR : Hid (∀ i W, i < N → I i W → W.cell? ⟨ob, oo + i, none⟩ = some (.iface (Q i).ty (Q i).rv)) := hrow
  have HS : Hid (∀ i W, i < N → I i W → Calls Tryz.prog cf (#[.iface (Q i).ty (Q i).rv] ++ caps) W fun e W' => e = .returned (.tuple #[]) ∧ I (i + 1) W') := hstep
  clear h0 hrow hstep
  go_enter Tryz.func199, Tryz.ntmps199
  go_wp2
  go_loopw [11] (fun i wr => ∃ k : Nat, k ≤ N ∧ i = .int .i64 k ∧ I k wr) (fun i _ => N - (intOf i).toNat)
  case atStart => exact ⟨0, Nat.zero_le _, rfl, H0.out⟩
  case round =>
    obtain ⟨k, hk, rfl, hi⟩ := hrel
    have HI : Hid (I k wr) := hi
    clear hi
    by_cases hlt : k < N
    · have hcell := HR.out k wr hlt HI.out
      go_wp2_with fail
      refine (HS.out k _ hlt HI.out).mono ?_
      rintro e w1 ⟨rfl, hi1⟩
      go_wp2_with fail
      go_roundw
      case rel => exact ⟨k + 1, by omega, by go_num, hi1⟩
      case measure => simp [intOf]; omega
    · obtain rfl : k = N := by omega
      go_wp2
      go_end0
      exact ⟨rfl, HI.out⟩
end Go.Proofs.YticplgdfgckicaaGreatDoor
