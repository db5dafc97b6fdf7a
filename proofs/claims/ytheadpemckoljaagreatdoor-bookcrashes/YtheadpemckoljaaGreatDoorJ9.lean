/-
  (*book.Book).Names: the names of all counters, sorted. Conditions: the book lies in memory.
-/
import Derived.Test.YtheadpemckoljaaGreatDoorJ6
import Derived.Test.YtheadpemckoljaaGreatDoorIter
import Derived.Shelf.AbstractIn
namespace Go.Proofs.YtheadpemckoljaaGreatDoor
open Go.RowKit Go.Extern.Stop Go.Stop Go.Extern Go.Maps Go.WideMaps

/-- The names of entries, each once, in order. -/
def NamesOf (l : List Ent) (ss : List (List UInt8)) : Prop := ss.Pairwise (fun a b => a < b) ∧ ∀ s, s ∈ ss ↔ ∃ e ∈ l, e.1 = s
theorem names_one {l : List Ent} {a b : List (List UInt8)} (ha : NamesOf l a) (hb : NamesOf l b) : a = b := by
  have hm : ∀ s, s ∈ a ↔ s ∈ b := fun s => (ha.2 s).trans (hb.2 s).symm
  refine List.Perm.eq_of_pairwise (le := fun a b => a < b) (fun x y _ _ h1 h2 => absurd h2 (List.lt_asymm h1)) ha.1 hb.1 ?_
  refine perm_of_mem ?_ ?_ hm
  · exact List.nodup_iff_pairwise_ne.2 (ha.1.imp fun {x y} h (e : x = y) => List.lt_irrefl y (by rw [e] at h; exact h))
  · exact List.nodup_iff_pairwise_ne.2 (hb.1.imp fun {x y} h (e : x = y) => List.lt_irrefl y (by rw [e] at h; exact h))
theorem owns_base {w : World} {a base n k : Nat} {e : TypeId} {v : Value} {xs : List Value} (h : w.ownsRow base e k v n xs) (ha : a ≤ base) : w.ownsRow a e k v n xs := by
  refine ⟨h.1, ?_⟩
  rcases h.2 with h1 | ⟨g, cap, cur, h1, h2, h3⟩
  · exact Or.inl h1
  · exact Or.inr ⟨g, cap, cur, h1, Nat.le_trans ha h2, h3⟩
theorem strict_of {ss : List (List UInt8)} (hn : ss.Nodup) : (ss.mergeSort leB).Pairwise (fun a b => a < b) := by
  have tr : ∀ a b c : List UInt8, leB a b = true → leB b c = true → leB a c = true := fun a b c h1 h2 => by simp only [leB, decide_eq_true_eq] at *; exact List.le_trans h1 h2
  have tot : ∀ a b : List UInt8, (leB a b || leB b a) = true := fun a b => by simp only [leB, Bool.or_eq_true, decide_eq_true_eq]; exact List.le_total a b
  have h1 := List.pairwise_mergeSort tr tot ss
  have h2 : (ss.mergeSort leB).Nodup := (List.mergeSort_perm ss leB).nodup_iff.2 hn
  have h3 := h1.and (List.nodup_iff_pairwise_ne.1 h2)
  refine h3.imp fun {a b} h => ?_
  obtain ⟨h4, h5⟩ := h
  simp only [leB, decide_eq_true_eq] at h4
  by_cases h6 : a < b
  · exact h6
  · exact absurd (List.le_antisymm h4 (List.not_lt.1 h6)) h5
theorem names_of_keys {l : List Ent} {L : List (List UInt8 × Int)} {l0 : List (Lit × DataW Unit)} {ss : List (List UInt8)} (hS : SumsOf l L) (ha : Ap L) (hp : l0.Perm (L.map enP)) (hs : ss.Perm (strKeys (.map l0))) : NamesOf l (ss.mergeSort leB) := by
  have h1 : (strKeys (.map l0)).Perm (L.map Prod.fst) := by
    have : (l0.map fun p => strOf p.1).Perm ((L.map enP).map fun p => strOf p.1) := hp.map _
    rw [List.map_map] at this
    exact this
  have h2 := hs.trans h1
  have hn : ss.Nodup := by
    refine h2.nodup_iff.2 ?_
    rw [List.nodup_iff_pairwise_ne, List.pairwise_map]
    exact ha
  refine ⟨strict_of hn, fun s => ?_⟩
  rw [(List.mergeSort_perm ss leB).mem_iff, h2.mem_iff, List.mem_map]
  exact hS.2 s
set_option maxRecDepth 100000 in
set_option maxHeartbeats 2000000 in
theorem names_any (b : Nat) (cm : Option Nat) (jv : Value) (sure : Nat) (l : List Ent) (w : World) (h : BkAt w b cm jv sure l) :
    Calls Tryz.prog 18 #[.pointer (some ⟨b, 0, none⟩)] w fun e w' => ∃ v ss, e = .returned v ∧ NamesOf l ss ∧ w'.ownsRow w.heap.size 9 1 v ss.length (ss.map encStr) ∧ Below w.heap.size w w' := by
  have HB : Hid (∀ w', Below w.heap.size w w' → BkAt w' b cm jv sure l) := fun w' hb => h.below hb
  have hfew := h.few
  obtain ⟨jx, jc, rfl⟩ := owns_slice h.jr
  have HR := read_any b cm _ sure l w h
  have hfd := bk_field0 cm jx (jour l).length jc sure (l.length : Nat)
  have hkf : Fence.wide.fn 35 := trivial
  have hsf : Fence.wide.fn 34 := trivial
  have hrf : Fence.wide.fn 33 := trivial
  clear h
  rcases hcm : cm with _ | m
  · subst hcm
    have HN : Hid (NamesOf l []) := by
      have h0 := HB.out w (Below.refl _ _)
      rcases h0.mp with ⟨_, rfl⟩ | ⟨m, L, e, _⟩
      · exact ⟨List.Pairwise.nil, fun s => by simp⟩
      · cases e
    refine (callsIn_wide (n := 6)).1 ?_
    refine callsIn_of_wp Tryz.func18 rfl trivial ?_ rfl
    simp only [Tryz.ntmps18, List.size_toArray, List.length_cons, List.length_nil, Nat.reduceAdd, Nat.reduceSub, Array.replicate_succ, Array.replicate_zero, List.push_toArray, List.append_toArray, List.nil_append, List.cons_append]
    gi_wp2_with (first
      | (gi_at_call 33; refine (callsIn_wide.2 HR).mono ?_; rintro e w1 ⟨rfl, hb1⟩)
      | (gi_at_call 35; refine (Tryz.maps_Keys_35 _ _).mono ?_; rintro e w2 ⟨rfl, rfl⟩)
      | (gi_at_call 34; refine (Tryz.slices_Sorted_keys_nil_34_35 _).mono ?_; rintro e w3 ⟨v, ss, rfl, rfl, hrow, hnil, hb3⟩))
    obtain rfl : v = .slice none 0 0 := by simpa using hnil
    have hA := below_alloc_ hb1 (.cells #[.map none] 26)
    go_ret
    exact ⟨_, _, rfl, HN.out, World.ownsRow_nil _ _ _ _, hA.trans (hb3.mono hA.size)⟩
  · subst hcm
    have HM : Hid (∀ w', Below w.heap.size w w' → ∃ L l0, w'.ownsMap Tryz.prog 9 (plainElem (H := Unit) Tryz.prog 3) m L.length (.map l0) ∧ l0.Perm (L.map enP) ∧ SumsOf l L ∧ Ap L ∧ Maps.size (.map l0) ≤ 500) := by
      intro w' hb
      have h0 := HB.out w' hb
      rcases h0.mp with ⟨e, _⟩ | ⟨m', L, e, hm, hS⟩
      · cases e
      · obtain rfl := Option.some.inj e
        have ha := hm.ap
        obtain ⟨l0, h1, h2⟩ := hm
        refine ⟨L, l0, h1, h2, hS, ha, ?_⟩
        have h3 := h2.length_eq
        rw [List.length_map] at h3
        have h4 := hS.few ha
        show l0.length ≤ 500
        omega
    refine (callsIn_wide (n := 6)).1 ?_
    refine callsIn_of_wp Tryz.func18 rfl trivial ?_ rfl
    simp only [Tryz.ntmps18, List.size_toArray, List.length_cons, List.length_nil, Nat.reduceAdd, Nat.reduceSub, Array.replicate_succ, Array.replicate_zero, List.push_toArray, List.append_toArray, List.nil_append, List.cons_append]
    gi_wp2_with (first
      | (gi_at_call 33; refine (callsIn_wide.2 HR).mono ?_; rintro e w1 ⟨rfl, hb1⟩; obtain ⟨L, l0, ho, hp, hS, ha, hz⟩ := HM.out w1 hb1; have HO : Hid _ := ho; have HZ : Hid _ := hz; have HS : Hid (SumsOf l L) := hS; have HAp : Hid (Ap L) := ha; have HPm : Hid _ := hp; clear ho hz hS ha hp)
      | (gi_at_call 35; refine (Tryz.maps_Keys_35 _ _).mono ?_; rintro e w2 ⟨rfl, rfl⟩)
      | (gi_at_call 34; refine (Tryz.slices_Sorted_keys_34_35 m _ _ _ w1 HO.out (by have := HZ.out; unfold maxLen; omega) (by have := HZ.out; omega)).mono ?_; rintro e w3 ⟨v, ss, rfl, hss, hrow, hnil, hb3⟩))
    have hA := below_alloc_ hb1 (.cells #[.map (some m)] 26)
    have hNO := names_of_keys HS.out HAp.out HPm.out hss
    go_ret
    refine ⟨v, ss.mergeSort leB, rfl, hNO, ?_, hA.trans (hb3.mono hA.size)⟩
    rw [(List.mergeSort_perm ss leB).length_eq]
    exact owns_base hrow hA.size
end Go.Proofs.YtheadpemckoljaaGreatDoor
