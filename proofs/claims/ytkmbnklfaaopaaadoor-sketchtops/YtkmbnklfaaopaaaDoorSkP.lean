/-
  sketch.pairs: in new memory all pairs of a map, the most frequent first, of like ones by key; nothing that was there is otherwise. Conditions: block b is a map of ints.
-/
import Derived.Test.YtkmbnklfaaopaaaDoorSkC
import Derived.Test.YtkmbnklfaaopaaaDoorSkO
import Derived.Test.YtkmbnklfaaopaaaDoorShelf
namespace Go.Proofs.YtkmbnklfaaopaaaDoor
open Go.RowKit Go.Extern.Stop Go.Stop Go.Extern Go.Maps
open Go.Shelf
open Go.Sort (SWO PermIn SortedIn HoldsK Holds flatK get_flatK)

/-- Which pair is ahead. -/
def PLt (x y : Int × Int) : Prop := y.2 < x.2 ∨ y.2 = x.2 ∧ x.1 < y.1
theorem pairC_neg (x y : Int × Int) : pairC x y < 0 ↔ PLt x y := by
  unfold pairC orI cmpI PLt
  by_cases h1 : y.2 < x.2
  · simp [h1]
  · by_cases h2 : x.2 < y.2
    · simp [h1, h2]; omega
    · have h3 : y.2 = x.2 := by omega
      simp only [h3, true_and]
      by_cases h4 : x.1 < y.1
      · simp [h4]
      · by_cases h5 : y.1 < x.1 <;> simp [h4, h5]
theorem ltP (x y : Int × Int) : ltOf pairC x y = true ↔ PLt x y := by
  unfold ltOf
  rw [decide_eq_true_eq, pairC_neg]
theorem ltN (x y : Int × Int) : ltOf pairC x y = false ↔ ¬ PLt x y := by
  unfold ltOf
  rw [decide_eq_false_iff_not, pairC_neg]
theorem swoP : SWO (ltOf pairC) where
  irrefl x := by rw [ltN]; unfold PLt; omega
  trans x y z h1 h2 := by rw [ltP] at *; unfold PLt at *; omega
  ntrans x y z h1 h2 := by rw [ltN] at *; unfold PLt at *; omega
def enPair (x : Int × Int) : List Value := [.int .i64 x.1, .int .i64 x.2]
/-- Pairs as cells. -/
def flatP (N : List (Int × Int)) : List Value := N.flatMap enPair
theorem flatP_len (N : List (Int × Int)) : (flatP N).length = N.length * 2 := by
  induction N with
  | nil => rfl
  | cons a N ih => show (enPair a ++ flatP N).length = _; rw [List.length_append, ih]; simp [enPair]; omega
theorem flatP_get : ∀ (N : List (Int × Int)) (i : Nat) (p : Int × Int), N[i]? = some p → (flatP N)[i * 2]? = some (.int .i64 p.1) ∧ (flatP N)[i * 2 + 1]? = some (.int .i64 p.2)
  | [], _, _, h => by simp at h
  | a :: N, 0, p, h => by
    simp at h; subst h
    exact ⟨rfl, rfl⟩
  | a :: N, i + 1, p, h => by
    have h' : N[i]? = some p := by simpa using h
    obtain ⟨h1, h2⟩ := flatP_get N i p h'
    have e : flatP (a :: N) = Value.int .i64 a.1 :: Value.int .i64 a.2 :: flatP N := rfl
    rw [e, show (i + 1) * 2 = i * 2 + 1 + 1 by omega]
    exact ⟨h1, h2⟩
/-- Pairs in memory. -/
def PrR (w : World) (x : Option Addr) (M : List (Int × Int)) : Prop := M = [] ∨ ∃ b off, x = some ⟨b, off, none⟩ ∧ ∀ i p, M[i]? = some p → w.cell? ⟨b, off + i * 2, none⟩ = some (.int .i64 p.1) ∧ w.cell? ⟨b, off + i * 2 + 1, none⟩ = some (.int .i64 p.2)
theorem PrR.below {w w' : World} {x : Option Addr} {M : List (Int × Int)} (h : PrR w x M) (hb : Below w.heap.size w w') : PrR w' x M := by
  rcases h with h | ⟨b, off, e, h⟩
  · exact Or.inl h
  · refine Or.inr ⟨b, off, e, fun i p hp => ?_⟩
    obtain ⟨h1, h2⟩ := h i p hp
    exact ⟨by rw [hb.cell (World.block_lt_of_cell? _ _ h1)]; exact h1, by rw [hb.cell (World.block_lt_of_cell? _ _ h2)]; exact h2⟩
theorem PrR.at {w : World} {x : Option Addr} {M : List (Int × Int)} (h : PrR w x M) {i : Nat} {p : Int × Int} (hp : M[i]? = some p) : ∃ b off, x = some ⟨b, off, none⟩ ∧ w.cell? ⟨b, off + i * 2, none⟩ = some (.int .i64 p.1) ∧ w.cell? ⟨b, off + i * 2 + 1, none⟩ = some (.int .i64 p.2) := by
  rcases h with rfl | ⟨b, off, e, h⟩
  · simp at hp
  · exact ⟨b, off, e, h i p hp⟩
theorem holds_of_owns {w : World} {B g cap : Nat} {N : List (Int × Int)} (h : w.ownsRow B 57 2 (.slice (some ⟨g, 0, none⟩) N.length cap) N.length (flatP N)) : HoldsK enPair 2 w g 0 N.toArray ∧ g < w.heap.size := by
  rcases h.2 with ⟨h1, _⟩ | ⟨g', cap', cur, hv, hg, hh, hn, hx, hs, ht⟩
  · simp at h1
  · simp only [Value.slice.injEq, Option.some.injEq, Addr.mk.injEq, and_true, true_and] at hv
    obtain ⟨rfl, rfl⟩ := hv
    refine ⟨fun j hj => ?_, (Array.getElem?_eq_some_iff.1 hh).1⟩
    have hj' : j < N.length * 2 := by simpa [Go.Sort.size_flatK] using hj
    rw [get_flatK _ _ _ j (by simpa using hj')]
    have hlt : j / 2 < N.length := by omega
    have hp : N[j / 2]? = some N[j / 2] := List.getElem?_eq_getElem hlt
    obtain ⟨c0, c1⟩ := flatP_get N (j / 2) _ hp
    have eN : N.toArray[j / 2]! = N[j / 2] := by simp [hlt]
    have hcur : cur.toList[j]? = (flatP N)[j]? := by rw [← ht, List.getElem?_take, if_pos (by omega)]
    have hc : cur[j]? = (flatP N)[j]? := by simpa using hcur
    refine ⟨?_, by simp [World.frozen?, hh]⟩
    rw [eN]
    simp only [World.cell?, hh, Nat.zero_add, hc]
    rcases Nat.mod_two_eq_zero_or_one j with e | e
    · rw [show j / 2 * 2 = j by omega] at c0
      rw [e, c0]; rfl
    · rw [show j / 2 * 2 + 1 = j by omega] at c1
      rw [e, c1]; rfl
theorem prR_of_holds {w : World} {g : Nat} {d : Array (Int × Int)} (h : HoldsK enPair 2 w g 0 d) : PrR w (some ⟨g, 0, none⟩) d.toList := by
  refine Or.inr ⟨g, 0, rfl, fun i p hp => ?_⟩
  have hi : i < d.size := by
    have := (List.getElem?_eq_some_iff.1 hp).1
    simpa using this
  have ep : d[i]! = p := by
    have : d[i]? = some p := by simpa using hp
    rw [getElem!_pos d i hi]
    exact (Array.getElem?_eq_some_iff.1 this).2
  have h0 := (h (i * 2) (by rw [Go.Sort.size_flatK]; omega)).1
  have h1 := (h (i * 2 + 1) (by rw [Go.Sort.size_flatK]; omega)).1
  rw [get_flatK _ _ _ _ (by omega), show i * 2 / 2 = i by omega, show i * 2 % 2 = 0 by omega, ep] at h0
  rw [get_flatK _ _ _ _ (by omega), show (i * 2 + 1) / 2 = i by omega, show (i * 2 + 1) % 2 = 1 by omega, ep] at h1
  refine ⟨h0, ?_⟩
  rw [Nat.add_assoc]
  exact h1
/-- Sorted, the most frequent first. -/
def Srt (M : List (Int × Int)) : Prop := M.Pairwise fun p q => ¬ PLt q p
set_option maxHeartbeats 1000000 in
theorem sort_any (g cap : Nat) (N : List (Int × Int)) (w : World) (hH : HoldsK enPair 2 w g 0 N.toArray) (hg : g < w.heap.size) (hsz : N.length ≤ 1000000) :
    Calls Tryd.prog 25 #[.slice (some ⟨g, 0, none⟩) N.length cap, .func (.func 26) #[] #[]] w fun e w' => e = .returned (.tuple #[]) ∧ ∃ M, M.Perm N ∧ Srt M ∧ PrR w' (some ⟨g, 0, none⟩) M ∧ w.grownBy w' (some g) := by
  have eg : ∀ args w, (callFunc 26 args).run Tryd.prog w = .ok (.enter 26 args) w := enters_of Tryd.func26 (by kernel_rfl) rfl
  have hcon := AnyQ.slices_SortFunc Tryd.sortPair 2 Tryd.isAgg57 Tryd.sizeOf57 enPair (fun _ => rfl) (fun x v hv => by simp [enPair] at hv; rcases hv with rfl | rfl <;> rfl) pairC swoP 26 #[] g 0 cap N.toArray w eg (fun _ _ _ _ x y => pairC_any x y _) hH hg (by simp; omega)
  rw [show N.toArray.size = N.length by simp] at hcon
  refine Calls.mono hcon ?_
  rintro e w' ⟨rfl, d', n, os, ⟨p1, _, p2⟩, hs, rfl⟩
  refine ⟨rfl, d'.toList, ?_, ?_, prR_of_holds (holdsK_sortWorldK_c enPair 2 w g 0 N.toArray d' n os hH hg p1), ?_⟩
  · have e1 : d'.extract 0 N.length = d' := by rw [show N.length = d'.size by rw [p1]; simp]; simp
    have e2 : N.toArray.extract 0 N.length = N.toArray := by rw [show N.length = N.toArray.size by simp]; simp
    rw [e1, e2] at p2
    simpa using p2
  · unfold Srt
    rw [List.pairwise_iff_getElem]
    intro i j hi hj hij
    have h1 : j < N.length := by
      have h2 : j < d'.size := by simpa using hj
      rw [p1] at h2
      simpa using h2
    have := hs i j (Nat.zero_le _) hij h1
    rw [ltN] at this
    have gi : d'[i]! = d'.toList[i] := by rw [getElem!_pos d' i (by simpa using hi)]; simp
    have gj : d'[j]! = d'.toList[j] := by rw [getElem!_pos d' j (by simpa using hj)]; simp
    rw [gi, gj] at this
    exact this
  · unfold sortWorldK
    refine ⟨rfl, rfl, rfl, ?_, fun i hi hne => ?_⟩
    · simp [Go.Sort.grow, Go.Sort.putRowK, Go.Sort.putRow, Go.Sort.mapBlock, Go.Sort.ahead]
    · have hig : g ≠ i := fun h => hne (by rw [h])
      show ((w.heap.modify g _) ++ os)[i]? = _
      rw [Array.getElem?_append_left (by simpa using hi), Array.getElem?_modify, if_neg hig]
end Go.Proofs.YtkmbnklfaaopaaaDoor
