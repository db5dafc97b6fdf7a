/-
  A region that draws its order, by what holds at every point of it: each operation is carried out once, at any point at which it may come up; no order is written out.
-/
import Derived.Test.YtpgdocmpbeabpaaDoorProg
import Derived.WalkKit
import Derived.Deep.RegionWith
namespace Go.Proofs.YtpgdocmpbeabpaaDoor
open Go.RowKit

/-- Does every operation wait for earlier ones alone? -/
def back (ops : Array Oper) : Bool := (List.range ops.size).all fun i => ((ops[i]?).map fun o => o.after.all fun e => decide (e.on < i)).getD true

theorem back_spec {ops : Array Oper} (h : back ops = true) {i : Nat} {o : Oper} (ho : ops[i]? = some o) : ∀ e ∈ o.after, e.on < i := by
  intro e he
  have hi : i < ops.size := by
    rcases Nat.lt_or_ge i ops.size with h' | h'
    · exact h'
    · rw [Array.getElem?_eq_none h'] at ho; cases ho
  unfold back at h
  rw [List.all_eq_true] at h
  have := h i (List.mem_range.2 hi)
  rw [ho] at this
  simp only [Option.map_some, Option.getD_some] at this
  rw [Array.all_eq_true_iff_forall_mem] at this
  simpa using this e he

theorem wpAny_inv {P : Program} {md : Region.Mode} {ops : Array Oper} {Q : Exit → Act → World → Prop} (I : (Nat → Prop) → Act → World → Prop) (hb : back ops = true)
    (step : ∀ (i : Nat) (o : Oper) (L : Nat → Prop) (a : Act) (w : World), ops[i]? = some o → ¬ L i → (∀ e ∈ o.after, Region.binds md e = true → L e.on) → I L a w → wpOp P ops Q i (I (fun j => j = i ∨ L j)) a w)
    (fin : ∀ (L : Nat → Prop) (a : Act) (w : World), (∀ i, i < ops.size → L i) → I L a w → Q .normal a w) :
    ∀ (fuel : Nat) (listed : Array Bool) (S : List Nat) (a : Act) (w : World), S.length ≤ fuel → (∀ i, i < ops.size → listed.getD i false = false → i ∈ S) → listed.size = ops.size → I (fun j => listed.getD j false = true) a w →
      wpAny P md ops Q fuel listed a w := by
  have same : ∀ (listed : Array Bool) (i : Nat), i < listed.size → listed.getD i true = listed.getD i false := fun listed i h => by simp [h]
  have allL : ∀ (listed : Array Bool), listed.size = ops.size → Region.ready md ops listed = [] → ∀ i, i < ops.size → listed.getD i false = true := by
    intro listed hsz hr i
    induction i using Nat.strongRecOn with
    | ind i ih =>
      intro hi
      rcases hc : listed.getD i false with _ | _
      · exfalso
        have hm : i ∈ Region.ready md ops listed := by
          rw [mem_ready]
          refine ⟨by rw [same listed i (by omega)]; exact hc, ops[i], by simp [hi], fun e he _ => ?_⟩
          have hlt : e.on < i := back_spec hb (o := ops[i]) (by simp [hi]) e he
          exact ih e.on hlt (by omega)
        rw [hr] at hm
        cases hm
      · rfl
  intro fuel
  induction fuel with
  | zero =>
    intro listed S a w hS hcov hsz hI
    have hS0 : S = [] := List.eq_nil_of_length_eq_zero (by omega)
    subst hS0
    have hall : ∀ i, i < ops.size → listed.getD i false = true := fun i hi => by
      rcases hc : listed.getD i false with _ | _
      · cases hcov i hi hc
      · rfl
    refine ⟨?_, fin _ a w hall hI⟩
    rcases hr : Region.ready md ops listed with _ | ⟨j, r⟩
    · rfl
    · have hj : j ∈ Region.ready md ops listed := by rw [hr]; exact List.mem_cons_self
      obtain ⟨h0, o, ho, _⟩ := mem_ready.1 hj
      have hlt : j < ops.size := by
        rcases Nat.lt_or_ge j ops.size with h' | h'
        · exact h'
        · rw [Array.getElem?_eq_none h'] at ho; cases ho
      rw [same listed j (by omega), hall j hlt] at h0
      cases h0
  | succ fuel ih =>
    intro listed S a w hS hcov hsz hI
    refine ⟨fun hr => fin _ a w (allL listed hsz hr) hI, fun i hi => ?_⟩
    obtain ⟨h0, o, ho, hd⟩ := mem_ready.1 hi
    have hlt : i < ops.size := by
      rcases Nat.lt_or_ge i ops.size with h' | h'
      · exact h'
      · rw [Array.getElem?_eq_none h'] at ho; cases ho
    rw [same listed i (by omega)] at h0
    have hmem := hcov i hlt h0
    refine wpOp_mono (fun a' w' h' => ih (listed.setIfInBounds i true) (S.erase i) a' w' ?_ ?_ ?_ ?_) (step i o _ a w ho (by rw [h0]; simp) hd hI)
    · have := List.length_erase_of_mem hmem
      omega
    · intro j hj hf
      have hne : j ≠ i := by
        rintro rfl
        have : (listed.setIfInBounds j true).getD j false = true := by simp [hsz, hj]
        rw [this] at hf
        cases hf
      rw [getD_set_ne false (Ne.symm hne)] at hf
      exact (List.mem_erase_of_ne hne).2 (hcov j hj hf)
    · simp [hsz]
    · have e : (fun j => (listed.setIfInBounds i true).getD j false = true) = (fun j => j = i ∨ listed.getD j false = true) := by
        funext j
        refine propext ⟨fun h => ?_, fun h => ?_⟩
        · by_cases hne : j = i
          · exact Or.inl hne
          · rw [getD_set_ne false (Ne.symm hne)] at h
            exact Or.inr h
        · rcases h with rfl | h
          · simp [hsz, hlt]
          · exact getD_set_true h
      rw [e]
      exact h'
/-- S: the operations that have not come up yet. -/
def covers (n : Nat) (listed : Array Bool) (S : List Nat) : Bool := listed.size == n && (List.range n).all (fun i => listed.getD i false || S.contains i) && S.all (fun i => !listed.getD i false && decide (i < n))

/-- A region of which some operations have come up: what holds at every point of it, shown for each of the others at any point at which it may come up. -/
theorem wpAny_by {P : Program} {md : Region.Mode} {ops : Array Oper} {Q : Exit → Act → World → Prop} {fuel : Nat} {listed : Array Bool} {a : Act} {w : World} (I : (Nat → Prop) → Act → World → Prop) (S : List Nat) (hb : back ops = true)
    (hc : covers ops.size listed S = true) (hS : S.length ≤ fuel)
    (init : ∀ L : Nat → Prop, (∀ i, i ∈ S → ¬ L i) → I L a w)
    (step : ∀ (i : Nat) (L : Nat → Prop) (a : Act) (w : World), i ∈ S → ¬ L i → (∀ o, ops[i]? = some o → ∀ e ∈ o.after, Region.binds md e = true → L e.on) → I L a w → wpOp P ops Q i (I (fun j => j = i ∨ L j)) a w)
    (fin : ∀ (L : Nat → Prop) (a : Act) (w : World), (∀ i, i ∈ S → L i) → I L a w → Q .normal a w) : wpAny P md ops Q fuel listed a w := by
  unfold covers at hc
  simp only [Bool.and_eq_true, beq_iff_eq, List.all_eq_true] at hc
  obtain ⟨⟨h1, h2⟩, h3⟩ := hc
  refine wpAny_inv (fun L a w => (∀ i, i < ops.size → ¬ L i → i ∈ S) ∧ I L a w) hb ?_ ?_ fuel listed S a w hS ?_ h1 ⟨?_, ?_⟩
  · rintro i o L a w ho hn hd ⟨hs, hI⟩
    have hi : i < ops.size := by
      rcases Nat.lt_or_ge i ops.size with h' | h'
      · exact h'
      · rw [Array.getElem?_eq_none h'] at ho; cases ho
    refine wpOp_mono (fun a' w' h => ⟨fun j hj hL => hs j hj (fun h' => hL (Or.inr h')), h⟩) (step i L a w (hs i hi hn) hn (fun o' ho' => ?_) hI)
    rw [ho] at ho'
    cases ho'
    exact hd
  · rintro L a w hL ⟨_, hI⟩
    refine fin L a w (fun i hi => ?_) hI
    have := h3 i hi
    simp only [decide_eq_true_eq] at this
    exact hL i this.2
  · intro i hi hf
    have := h2 i (List.mem_range.2 hi)
    rw [hf] at this
    simpa using this
  · intro i hi hn
    have := h2 i (List.mem_range.2 hi)
    rcases hc : listed.getD i false with _ | _
    · rw [hc] at this
      simpa using this
    · exact absurd hc hn
  · refine init _ fun i hi hL => ?_
    have := h3 i hi
    rw [hL] at this
    simp at this
end Go.Proofs.YtpgdocmpbeabpaaDoor
