/-
  package htb: who sends next. Conditions: the tree lies in memory as its state tells; times up to 1000000000.
-/
import Derived.Test.YtpgdocmpbeabpaaDoorZt6
namespace Go.Proofs.YtpgdocmpbeabpaaDoor
open Go.RowKit Go.Extern.Stop Go.Stop Go.Extern

/-- The best offer of the first classes. -/
def bestM (K : HtK) (s : HtS) (now : Int) : Nat → Option Ofr
  | 0 => none
  | i + 1 => match offM K s now i with
    | none => bestM K s now i
    | some o => match bestM K s now i with
      | none => some o
      | some b => if aheadB K s o b then some o else some b
theorem offM_leaf {K : HtK} {s : HtS} {now : Int} {i : Nat} {o : Ofr} (h : offM K s now i = some o) : o.leaf = i := by
  unfold offM at h
  split at h
  · cases h
  · split at h
    · cases h
    · rw [Option.map_eq_some_iff] at h
      obtain ⟨p, _, rfl⟩ := h
      rfl
theorem bestM_off {K : HtK} {s : HtS} {now : Int} : ∀ {i : Nat} {o : Ofr}, bestM K s now i = some o → o.leaf < i ∧ offM K s now o.leaf = some o := by
  intro i
  induction i with
  | zero => intro o h; cases h
  | succ i ih =>
    intro o h
    unfold bestM at h
    cases hof : offM K s now i with
    | none =>
      rw [hof] at h
      have := ih h
      exact ⟨by omega, this.2⟩
    | some q =>
      have hq := offM_leaf hof
      rw [hof] at h
      cases hb : bestM K s now i with
      | none =>
        rw [hb] at h
        cases h
        exact ⟨by omega, by rw [hq]; exact hof⟩
      | some b =>
        rw [hb] at h
        simp only at h
        split at h
        · cases h
          exact ⟨by omega, by rw [hq]; exact hof⟩
        · cases h
          have := ih hb
          exact ⟨by omega, this.2⟩
/-- The cells of an offer. -/
def ofCs (K : HtK) : Option Ofr → Array Value
  | none => #[.pointer none, .pointer none, .int .i64 0]
  | some o => #[.pointer (some ⟨K.nb o.leaf, 0, none⟩), .pointer (some ⟨K.nb o.lend, 0, none⟩), .int .i64 o.steps]
theorem ofV_cs (K : HtK) (o : Option Ofr) : ofV K o = .agg (ofCs K o) := by cases o <;> rfl
set_option maxRecDepth 20000 in
set_option maxHeartbeats 4000000 in
theorem best_ht {K : HtK} {s : HtS} {vs : Nat → Value} {ow : Nat → Nat × Nat} {t : Int} {n : Nat} (hK : HtKOk K) (now : Int) (w : World) (h : HtAt K w s vs ow) (hI : HtI K t n s) (hn : s.tm = now) (h2 : now ≤ 1000000000) :
    Calls Tryd.prog 32 #[.pointer (some ⟨K.tb, 0, none⟩), .int .i64 now] w fun e w' => e = .returned (.tuple #[ofV K (bestM K s now K.N), .bool (bestM K s now K.N).isSome]) ∧ Hid (HtAt K w' s vs ow) ∧ Hid (Ot (HtF K vs) w w') := by
  have H : Hid (HtAt K w s vs ow) := h
  have HOF : Hid (∀ W i, HtAt K W s vs ow → i < K.N → Calls Tryd.prog 42 #[.pointer (some ⟨K.nb i, 0, none⟩), .int .i64 now] W fun e w' => e = .returned (.tuple #[ofV K (offM K s now i), .bool (offM K s now i).isSome]) ∧ Hid (HtAt K w' s vs ow) ∧ Hid (Ot (HtF K vs) W w')) := fun W i hW hi => offers_ht hK now hi W hW hI hn h2
  have HLW2 : Hid (∀ k, HtF K vs k → k < w.heap.size) := h.low
  have h16 := hK.n16
  have hrt := h.root
  have c1 : w.cell? ⟨K.tb, 1, none⟩ = some (.slice (some ⟨K.g, 0, none⟩) K.N K.gcap) := by simp [World.cell?, hrt]
  have hl := lt_of_block hrt
  have HC1 : Hid (w.cell? ⟨K.tb, 1, none⟩ = some (.slice (some ⟨K.g, 0, none⟩) K.N K.gcap)) := c1
  have HW0 : Hid (((w.alloc (.cells #[.pointer none, .pointer none, .int .i64 0] 98)).alloc (.cells #[.pointer none, .pointer none, .int .i64 0] 98)).heap[w.heap.size]? = some (.cells #[.pointer none, .pointer none, .int .i64 0] 98 (0, 0))) := (Below.heap_alloc _ _ _ (by simp)).trans (new_block _ _)
  have HW1 : Hid (((w.alloc (.cells #[.pointer none, .pointer none, .int .i64 0] 98)).alloc (.cells #[.pointer none, .pointer none, .int .i64 0] 98)).heap[w.heap.size + 1]? = some (.cells #[.pointer none, .pointer none, .int .i64 0] 98 (0, 0))) := new_block_ (by simp)
  have c1' : ((w.alloc (.cells #[.pointer none, .pointer none, .int .i64 0] 98)).alloc (.cells #[.pointer none, .pointer none, .int .i64 0] 98)).cell? ⟨K.tb, 1, none⟩ = some (.slice (some ⟨K.g, 0, none⟩) K.N K.gcap) := (((below_alloc_ (below_alloc_ (Below.refl _ _) _) _) : Below w.heap.size w ((w.alloc (.cells #[.pointer none, .pointer none, .int .i64 0] 98)).alloc (.cells #[.pointer none, .pointer none, .int .i64 0] 98))).cell (p := ⟨K.tb, 1, none⟩) hl).trans c1
  have hl' : K.tb < w.heap.size + 2 := by omega
  clear hK h hI hn h2 hrt c1
  go_enter Tryd.func32, Tryd.ntmps32
  go_wp2
  have HA0 : Hid (HtAt K ((w.alloc (.cells #[.pointer none, .pointer none, .int .i64 0] 98)).alloc (.cells #[.pointer none, .pointer none, .int .i64 0] 98)) s vs ow) := H.out.below (below_alloc_ (below_alloc_ (Below.refl _ _) _) _)
  have HO0 : Hid (Ot (HtF K vs) w ((w.alloc (.cells #[.pointer none, .pointer none, .int .i64 0] 98)).alloc (.cells #[.pointer none, .pointer none, .int .i64 0] 98))) := ((Ot.refl _ _).alloc _).alloc _
  have hs0 : ((w.alloc (.cells #[.pointer none, .pointer none, .int .i64 0] 98)).alloc (.cells #[.pointer none, .pointer none, .int .i64 0] 98)).heap.size = w.heap.size + 2 := by simp
  generalize (w.alloc (.cells #[.pointer none, .pointer none, .int .i64 0] 98)).alloc (.cells #[.pointer none, .pointer none, .int .i64 0] 98) = w0 at *
  clear c1' hl hl' HC1
  go_loopw [7, 17] (fun fv iv wr => ∃ i : Nat, i ≤ K.N ∧ iv = .int .i64 i ∧ fv = .bool (bestM K s now i).isSome ∧ Hid (HtAt K wr s vs ow) ∧ Hid (Ot (HtF K vs) w wr) ∧ Hid (wr.heap[w.heap.size + 1]? = some (.cells (ofCs K (bestM K s now i)) 98 (0, 0))) ∧ Hid (wr.heap[w.heap.size]? = some (.cells #[.pointer none, .pointer none, .int .i64 0] 98 (0, 0)))) (fun _ iv _ => K.N - (intOf iv).toNat)
  case atStart => exact ⟨0, Nat.zero_le _, rfl, rfl, HA0, HO0, HW1, HW0⟩
  case round =>
    clear HA0 HO0 HW1 HW0 hs0
    obtain ⟨i, hi, rfl, rfl, HA, HO, HB, HZ⟩ := hrel
    by_cases hlt : i < K.N
    · have hrw := HA.out.row i hlt
      have hgl := HA.out.gl
      have hki : (i : Int) < (K.N : Int) := by omega
      have HCL := HOF.out wr i HA.out hlt
      obtain ⟨bi, hbi⟩ : ∃ bi, bestM K s now i = bi := ⟨_, rfl⟩
      rw [hbi] at HB ⊢
      cases hof : offM K s now i with
      | none =>
        have HM : Hid (bestM K s now (i + 1) = bi) := by show bestM K s now (i + 1) = bi; unfold bestM; rw [hof]; exact hbi
        have HCLL : Hid (Calls Tryd.prog 42 #[.pointer (some ⟨K.nb i, 0, none⟩), .int .i64 now] wr fun e w' => e = .returned (.tuple #[.agg #[.pointer none, .pointer none, .int .i64 0], .bool false]) ∧ Hid (HtAt K w' s vs ow) ∧ Hid (Ot (HtF K vs) wr w')) := by rw [hof] at HCL; exact HCL
        clear HCL hof hbi
        go_wp2_with fail
        refine HCLL.out.mono ?_
        rintro e w1 ⟨rfl, HA1, HO1⟩
        have HO01 : Hid (Ot (HtF K vs) w w1) := HO.out.trans HO1.out
        have HZ1 : Hid (w1.heap[w.heap.size]? = some (.cells #[.pointer none, .pointer none, .int .i64 0] 98 (0, 0))) := (HO1.out.block _ (lt_of_block HZ.out) (fun hk => by have := HLW2.out _ hk; omega)).trans HZ.out
        have HB1 : Hid (w1.heap[w.heap.size + 1]? = some (.cells (ofCs K bi) 98 (0, 0))) := (HO1.out.block _ (lt_of_block HB.out) (fun hk => by have := HLW2.out _ hk; omega)).trans HB.out
        go_wp2
        go_roundw
        case rel => exact ⟨i + 1, by omega, by go_num, by rw [HM.out], HA1.out.below (below_alloc_ (Below.refl _ _) _), HO01.out.alloc _, by rw [HM.out]; exact (Below.heap_alloc _ _ _ (lt_of_block HB1.out)).trans HB1.out, (Below.heap_alloc _ _ _ (lt_of_block HZ1.out)).trans HZ1.out⟩
        case measure => simp [intOf]; omega
      | some o =>
        have hol := offM_leaf hof
        have HCLL : Hid (Calls Tryd.prog 42 #[.pointer (some ⟨K.nb i, 0, none⟩), .int .i64 now] wr fun e w' => e = .returned (.tuple #[.agg #[.pointer (some ⟨K.nb o.leaf, 0, none⟩), .pointer (some ⟨K.nb o.lend, 0, none⟩), .int .i64 o.steps], .bool true]) ∧ Hid (HtAt K w' s vs ow) ∧ Hid (Ot (HtF K vs) wr w')) := by rw [hof] at HCL; exact HCL
        cases bi with
        | none =>
          have HM : Hid (bestM K s now (i + 1) = some o) := by show bestM K s now (i + 1) = _; unfold bestM; rw [hof, hbi]
          have HBX : Hid (wr.heap[w.heap.size + 1]? = some (.cells #[.pointer none, .pointer none, .int .i64 0] 98 (0, 0))) := HB
          clear HCL hof hbi HB
          go_wp2_with fail
          refine HCLL.out.mono ?_
          rintro e w1 ⟨rfl, HA1, HO1⟩
          have HO01 : Hid (Ot (HtF K vs) w w1) := HO.out.trans HO1.out
          have HZ1 : Hid (w1.heap[w.heap.size]? = some (.cells #[.pointer none, .pointer none, .int .i64 0] 98 (0, 0))) := (HO1.out.block _ (lt_of_block HZ.out) (fun hk => by have := HLW2.out _ hk; omega)).trans HZ.out
          have HB1 : Hid (w1.heap[w.heap.size + 1]? = some (.cells #[.pointer none, .pointer none, .int .i64 0] 98 (0, 0))) := (HO1.out.block _ (lt_of_block HBX.out) (fun hk => by have := HLW2.out _ hk; omega)).trans HBX.out
          have hn1 : (w1.alloc (.cells #[.pointer (some ⟨K.nb o.leaf, 0, none⟩), .pointer (some ⟨K.nb o.lend, 0, none⟩), .int .i64 o.steps] 98)).heap[w1.heap.size]? = some (.cells #[.pointer (some ⟨K.nb o.leaf, 0, none⟩), .pointer (some ⟨K.nb o.lend, 0, none⟩), .int .i64 o.steps] 98 (0, 0)) := new_block _ _
          have hb1 : (w1.alloc (.cells #[.pointer (some ⟨K.nb o.leaf, 0, none⟩), .pointer (some ⟨K.nb o.lend, 0, none⟩), .int .i64 o.steps] 98)).heap[w.heap.size + 1]? = some (.cells #[.pointer none, .pointer none, .int .i64 0] 98 (0, 0)) := (Below.heap_alloc _ _ _ (lt_of_block HB1.out)).trans HB1.out
          have a0 : (w1.alloc (.cells #[.pointer (some ⟨K.nb o.leaf, 0, none⟩), .pointer (some ⟨K.nb o.lend, 0, none⟩), .int .i64 o.steps] 98)).cell? ⟨w1.heap.size, 0, none⟩ = some (.pointer (some ⟨K.nb o.leaf, 0, none⟩)) := by simp only [World.cell?]; rw [hn1]; rfl
          have a1 : (w1.alloc (.cells #[.pointer (some ⟨K.nb o.leaf, 0, none⟩), .pointer (some ⟨K.nb o.lend, 0, none⟩), .int .i64 o.steps] 98)).cell? ⟨w1.heap.size, 1, none⟩ = some (.pointer (some ⟨K.nb o.lend, 0, none⟩)) := by simp only [World.cell?]; rw [hn1]; rfl
          have a2 : (w1.alloc (.cells #[.pointer (some ⟨K.nb o.leaf, 0, none⟩), .pointer (some ⟨K.nb o.lend, 0, none⟩), .int .i64 o.steps] 98)).cell? ⟨w1.heap.size, 2, none⟩ = some (.int .i64 o.steps) := by simp only [World.cell?]; rw [hn1]; rfl
          have al := lt_of_block hn1
          have b0 : (w1.alloc (.cells #[.pointer (some ⟨K.nb o.leaf, 0, none⟩), .pointer (some ⟨K.nb o.lend, 0, none⟩), .int .i64 o.steps] 98)).cell? ⟨w.heap.size + 1, 0, none⟩ = some (.pointer none) := by simp only [World.cell?]; rw [hb1]; rfl
          have bf0 : (w1.alloc (.cells #[.pointer (some ⟨K.nb o.leaf, 0, none⟩), .pointer (some ⟨K.nb o.lend, 0, none⟩), .int .i64 o.steps] 98)).frozen? ⟨w.heap.size + 1, 0, none⟩ = false := by simp only [World.frozen?]; rw [hb1]; rfl
          have b1 : (w1.alloc (.cells #[.pointer (some ⟨K.nb o.leaf, 0, none⟩), .pointer (some ⟨K.nb o.lend, 0, none⟩), .int .i64 o.steps] 98)).cell? ⟨w.heap.size + 1, 1, none⟩ = some (.pointer none) := by simp only [World.cell?]; rw [hb1]; rfl
          have bf1 : (w1.alloc (.cells #[.pointer (some ⟨K.nb o.leaf, 0, none⟩), .pointer (some ⟨K.nb o.lend, 0, none⟩), .int .i64 o.steps] 98)).frozen? ⟨w.heap.size + 1, 1, none⟩ = false := by simp only [World.frozen?]; rw [hb1]; rfl
          have b2 : (w1.alloc (.cells #[.pointer (some ⟨K.nb o.leaf, 0, none⟩), .pointer (some ⟨K.nb o.lend, 0, none⟩), .int .i64 o.steps] 98)).cell? ⟨w.heap.size + 1, 2, none⟩ = some (.int .i64 0) := by simp only [World.cell?]; rw [hb1]; rfl
          have bf2 : (w1.alloc (.cells #[.pointer (some ⟨K.nb o.leaf, 0, none⟩), .pointer (some ⟨K.nb o.lend, 0, none⟩), .int .i64 o.steps] 98)).frozen? ⟨w.heap.size + 1, 2, none⟩ = false := by simp only [World.frozen?]; rw [hb1]; rfl
          have bl := lt_of_block hb1
          have HB2 : Hid ((w1.alloc (.cells #[.pointer (some ⟨K.nb o.leaf, 0, none⟩), .pointer (some ⟨K.nb o.lend, 0, none⟩), .int .i64 o.steps] 98)).heap[w.heap.size + 1]? = some (.cells #[.pointer none, .pointer none, .int .i64 0] 98 (0, 0))) := hb1
          have HA2 : Hid (HtAt K (w1.alloc (.cells #[.pointer (some ⟨K.nb o.leaf, 0, none⟩), .pointer (some ⟨K.nb o.lend, 0, none⟩), .int .i64 o.steps] 98)) s vs ow) := HA1.out.below (below_alloc_ (Below.refl _ _) _)
          have HO2 : Hid (Ot (HtF K vs) w (w1.alloc (.cells #[.pointer (some ⟨K.nb o.leaf, 0, none⟩), .pointer (some ⟨K.nb o.lend, 0, none⟩), .int .i64 o.steps] 98))) := HO01.out.alloc _
          have HZ2 : Hid ((w1.alloc (.cells #[.pointer (some ⟨K.nb o.leaf, 0, none⟩), .pointer (some ⟨K.nb o.lend, 0, none⟩), .int .i64 o.steps] 98)).heap[w.heap.size]? = some (.cells #[.pointer none, .pointer none, .int .i64 0] 98 (0, 0))) := (Below.heap_alloc _ _ _ (lt_of_block HZ1.out)).trans HZ1.out
          clear hn1 hb1 HA HO HA1 HO1 HO01 HZ HZ1 HB1 HCLL hol
          go_wp2
          have hz : ((((w1.alloc (.cells #[.pointer (some ⟨K.nb o.leaf, 0, none⟩), .pointer (some ⟨K.nb o.lend, 0, none⟩), .int .i64 o.steps] 98)).setCell ⟨w.heap.size + 1, 0, none⟩ (.pointer (some ⟨K.nb o.leaf, 0, none⟩))).setCell ⟨w.heap.size + 1, 1, none⟩ (.pointer (some ⟨K.nb o.lend, 0, none⟩))).setCell ⟨w.heap.size + 1, 2, none⟩ (.int .i64 o.steps)).heap[w.heap.size + 1]? = some (.cells #[.pointer (some ⟨K.nb o.leaf, 0, none⟩), .pointer (some ⟨K.nb o.lend, 0, none⟩), .int .i64 o.steps] 98 (0, 0)) := by
            rw [heap_setCell_here (heap_setCell_here (heap_setCell_here HB2.out _) _) _]
            simp
          have hot : Ot (fun k => k = w.heap.size + 1) (w1.alloc (.cells #[.pointer (some ⟨K.nb o.leaf, 0, none⟩), .pointer (some ⟨K.nb o.lend, 0, none⟩), .int .i64 o.steps] 98)) ((((w1.alloc (.cells #[.pointer (some ⟨K.nb o.leaf, 0, none⟩), .pointer (some ⟨K.nb o.lend, 0, none⟩), .int .i64 o.steps] 98)).setCell ⟨w.heap.size + 1, 0, none⟩ (.pointer (some ⟨K.nb o.leaf, 0, none⟩))).setCell ⟨w.heap.size + 1, 1, none⟩ (.pointer (some ⟨K.nb o.lend, 0, none⟩))).setCell ⟨w.heap.size + 1, 2, none⟩ (.int .i64 o.steps)) := by
            repeat' (first | with_reducible exact Ot.refl _ _ | with_reducible refine Ot.setCell ?_ (by simp) _)
          have hrel : Hid (HtAt K ((((w1.alloc (.cells #[.pointer (some ⟨K.nb o.leaf, 0, none⟩), .pointer (some ⟨K.nb o.lend, 0, none⟩), .int .i64 o.steps] 98)).setCell ⟨w.heap.size + 1, 0, none⟩ (.pointer (some ⟨K.nb o.leaf, 0, none⟩))).setCell ⟨w.heap.size + 1, 1, none⟩ (.pointer (some ⟨K.nb o.lend, 0, none⟩))).setCell ⟨w.heap.size + 1, 2, none⟩ (.int .i64 o.steps)) s vs ow) ∧ Hid (Ot (HtF K vs) w ((((w1.alloc (.cells #[.pointer (some ⟨K.nb o.leaf, 0, none⟩), .pointer (some ⟨K.nb o.lend, 0, none⟩), .int .i64 o.steps] 98)).setCell ⟨w.heap.size + 1, 0, none⟩ (.pointer (some ⟨K.nb o.leaf, 0, none⟩))).setCell ⟨w.heap.size + 1, 1, none⟩ (.pointer (some ⟨K.nb o.lend, 0, none⟩))).setCell ⟨w.heap.size + 1, 2, none⟩ (.int .i64 o.steps))) ∧ Hid (((((w1.alloc (.cells #[.pointer (some ⟨K.nb o.leaf, 0, none⟩), .pointer (some ⟨K.nb o.lend, 0, none⟩), .int .i64 o.steps] 98)).setCell ⟨w.heap.size + 1, 0, none⟩ (.pointer (some ⟨K.nb o.leaf, 0, none⟩))).setCell ⟨w.heap.size + 1, 1, none⟩ (.pointer (some ⟨K.nb o.lend, 0, none⟩))).setCell ⟨w.heap.size + 1, 2, none⟩ (.int .i64 o.steps)).heap[w.heap.size]? = some (.cells #[.pointer none, .pointer none, .int .i64 0] 98 (0, 0))) := ⟨HA2.out.kept (fun k hk => hot.block k (HA2.out.low k hk) (fun e => by have := HLW2.out k hk; omega)), HO2.out.trans' hot (fun k hk hlt => absurd hk (by omega)), (hot.block _ (lt_of_block HZ2.out) (by omega)).trans HZ2.out⟩
          go_roundw
          case rel => exact ⟨i + 1, by omega, by go_num, by rw [HM.out]; rfl, hrel.1, hrel.2.1, by rw [HM.out]; exact hz, hrel.2.2⟩
          case measure => simp [intOf]; omega
        | some b =>
          have HBX : Hid (wr.heap[w.heap.size + 1]? = some (.cells #[.pointer (some ⟨K.nb b.leaf, 0, none⟩), .pointer (some ⟨K.nb b.lend, 0, none⟩), .int .i64 b.steps] 98 (0, 0))) := HB
          obtain ⟨hbl1, _⟩ := bestM_off hbi
          have HAH : Hid (∀ W, HtAt K W s vs ow → Calls Tryd.prog 43 #[.agg #[.pointer (some ⟨K.nb o.leaf, 0, none⟩), .pointer (some ⟨K.nb o.lend, 0, none⟩), .int .i64 o.steps], .agg #[.pointer (some ⟨K.nb b.leaf, 0, none⟩), .pointer (some ⟨K.nb b.lend, 0, none⟩), .int .i64 b.steps]] W fun e w' => e = .returned (.bool (aheadB K s o b)) ∧ Below W.heap.size W w') := fun W hW => ahead_ht o b (by omega) (by omega) W hW
          have HMM : Hid (bestM K s now (i + 1) = if aheadB K s o b then some o else some b) := by show bestM K s now (i + 1) = _; unfold bestM; rw [hof, hbi]
          clear HCL hof hbi HB
          go_wp2_with fail
          refine HCLL.out.mono ?_
          rintro e w1 ⟨rfl, HA1, HO1⟩
          have HO01 : Hid (Ot (HtF K vs) w w1) := HO.out.trans HO1.out
          have HZ1 : Hid (w1.heap[w.heap.size]? = some (.cells #[.pointer none, .pointer none, .int .i64 0] 98 (0, 0))) := (HO1.out.block _ (lt_of_block HZ.out) (fun hk => by have := HLW2.out _ hk; omega)).trans HZ.out
          have HB1 : Hid (w1.heap[w.heap.size + 1]? = some (.cells #[.pointer (some ⟨K.nb b.leaf, 0, none⟩), .pointer (some ⟨K.nb b.lend, 0, none⟩), .int .i64 b.steps] 98 (0, 0))) := (HO1.out.block _ (lt_of_block HBX.out) (fun hk => by have := HLW2.out _ hk; omega)).trans HBX.out
          have hn1 : (w1.alloc (.cells #[.pointer (some ⟨K.nb o.leaf, 0, none⟩), .pointer (some ⟨K.nb o.lend, 0, none⟩), .int .i64 o.steps] 98)).heap[w1.heap.size]? = some (.cells #[.pointer (some ⟨K.nb o.leaf, 0, none⟩), .pointer (some ⟨K.nb o.lend, 0, none⟩), .int .i64 o.steps] 98 (0, 0)) := new_block _ _
          have hb1 : (w1.alloc (.cells #[.pointer (some ⟨K.nb o.leaf, 0, none⟩), .pointer (some ⟨K.nb o.lend, 0, none⟩), .int .i64 o.steps] 98)).heap[w.heap.size + 1]? = some (.cells #[.pointer (some ⟨K.nb b.leaf, 0, none⟩), .pointer (some ⟨K.nb b.lend, 0, none⟩), .int .i64 b.steps] 98 (0, 0)) := (Below.heap_alloc _ _ _ (lt_of_block HB1.out)).trans HB1.out
          have a0 : (w1.alloc (.cells #[.pointer (some ⟨K.nb o.leaf, 0, none⟩), .pointer (some ⟨K.nb o.lend, 0, none⟩), .int .i64 o.steps] 98)).cell? ⟨w1.heap.size, 0, none⟩ = some (.pointer (some ⟨K.nb o.leaf, 0, none⟩)) := by simp only [World.cell?]; rw [hn1]; rfl
          have a1 : (w1.alloc (.cells #[.pointer (some ⟨K.nb o.leaf, 0, none⟩), .pointer (some ⟨K.nb o.lend, 0, none⟩), .int .i64 o.steps] 98)).cell? ⟨w1.heap.size, 1, none⟩ = some (.pointer (some ⟨K.nb o.lend, 0, none⟩)) := by simp only [World.cell?]; rw [hn1]; rfl
          have a2 : (w1.alloc (.cells #[.pointer (some ⟨K.nb o.leaf, 0, none⟩), .pointer (some ⟨K.nb o.lend, 0, none⟩), .int .i64 o.steps] 98)).cell? ⟨w1.heap.size, 2, none⟩ = some (.int .i64 o.steps) := by simp only [World.cell?]; rw [hn1]; rfl
          have al := lt_of_block hn1
          have b0 : (w1.alloc (.cells #[.pointer (some ⟨K.nb o.leaf, 0, none⟩), .pointer (some ⟨K.nb o.lend, 0, none⟩), .int .i64 o.steps] 98)).cell? ⟨w.heap.size + 1, 0, none⟩ = some (.pointer (some ⟨K.nb b.leaf, 0, none⟩)) := by simp only [World.cell?]; rw [hb1]; rfl
          have b1 : (w1.alloc (.cells #[.pointer (some ⟨K.nb o.leaf, 0, none⟩), .pointer (some ⟨K.nb o.lend, 0, none⟩), .int .i64 o.steps] 98)).cell? ⟨w.heap.size + 1, 1, none⟩ = some (.pointer (some ⟨K.nb b.lend, 0, none⟩)) := by simp only [World.cell?]; rw [hb1]; rfl
          have b2 : (w1.alloc (.cells #[.pointer (some ⟨K.nb o.leaf, 0, none⟩), .pointer (some ⟨K.nb o.lend, 0, none⟩), .int .i64 o.steps] 98)).cell? ⟨w.heap.size + 1, 2, none⟩ = some (.int .i64 b.steps) := by simp only [World.cell?]; rw [hb1]; rfl
          have bl := lt_of_block hb1
          have HN2 : Hid ((w1.alloc (.cells #[.pointer (some ⟨K.nb o.leaf, 0, none⟩), .pointer (some ⟨K.nb o.lend, 0, none⟩), .int .i64 o.steps] 98)).heap[w1.heap.size]? = some (.cells #[.pointer (some ⟨K.nb o.leaf, 0, none⟩), .pointer (some ⟨K.nb o.lend, 0, none⟩), .int .i64 o.steps] 98 (0, 0))) := hn1
          have HB2 : Hid ((w1.alloc (.cells #[.pointer (some ⟨K.nb o.leaf, 0, none⟩), .pointer (some ⟨K.nb o.lend, 0, none⟩), .int .i64 o.steps] 98)).heap[w.heap.size + 1]? = some (.cells #[.pointer (some ⟨K.nb b.leaf, 0, none⟩), .pointer (some ⟨K.nb b.lend, 0, none⟩), .int .i64 b.steps] 98 (0, 0))) := hb1
          have HA2 : Hid (HtAt K (w1.alloc (.cells #[.pointer (some ⟨K.nb o.leaf, 0, none⟩), .pointer (some ⟨K.nb o.lend, 0, none⟩), .int .i64 o.steps] 98)) s vs ow) := HA1.out.below (below_alloc_ (Below.refl _ _) _)
          have HO2 : Hid (Ot (HtF K vs) w (w1.alloc (.cells #[.pointer (some ⟨K.nb o.leaf, 0, none⟩), .pointer (some ⟨K.nb o.lend, 0, none⟩), .int .i64 o.steps] 98))) := HO01.out.alloc _
          have HZ2 : Hid ((w1.alloc (.cells #[.pointer (some ⟨K.nb o.leaf, 0, none⟩), .pointer (some ⟨K.nb o.lend, 0, none⟩), .int .i64 o.steps] 98)).heap[w.heap.size]? = some (.cells #[.pointer none, .pointer none, .int .i64 0] 98 (0, 0))) := (Below.heap_alloc _ _ _ (lt_of_block HZ1.out)).trans HZ1.out
          clear hn1 hb1 HA HO HA1 HO1 HO01 HZ HZ1 HB1 HCLL hol
          go_wp2_with fail
          refine (HAH.out _ HA2.out).mono ?_
          rintro e w3 ⟨rfl, hb3⟩
          have HN3 : Hid (w3.heap[w1.heap.size]? = some (.cells #[.pointer (some ⟨K.nb o.leaf, 0, none⟩), .pointer (some ⟨K.nb o.lend, 0, none⟩), .int .i64 o.steps] 98 (0, 0))) := (hb3.block _ (lt_of_block HN2.out)).trans HN2.out
          have HB3 : Hid (w3.heap[w.heap.size + 1]? = some (.cells #[.pointer (some ⟨K.nb b.leaf, 0, none⟩), .pointer (some ⟨K.nb b.lend, 0, none⟩), .int .i64 b.steps] 98 (0, 0))) := (hb3.block _ (lt_of_block HB2.out)).trans HB2.out
          have HA3 : Hid (HtAt K w3 s vs ow) := HA2.out.below hb3
          have HO3 : Hid (Ot (HtF K vs) w w3) := HO2.out.trans (Ot.of_below hb3)
          have HZ3 : Hid (w3.heap[w.heap.size]? = some (.cells #[.pointer none, .pointer none, .int .i64 0] 98 (0, 0))) := (hb3.block _ (lt_of_block HZ2.out)).trans HZ2.out
          have hn3 := HN3.out
          have hb33 := HB3.out
          have c0 : w3.cell? ⟨w1.heap.size, 0, none⟩ = some (.pointer (some ⟨K.nb o.leaf, 0, none⟩)) := by simp only [World.cell?]; rw [hn3]; rfl
          have c1 : w3.cell? ⟨w1.heap.size, 1, none⟩ = some (.pointer (some ⟨K.nb o.lend, 0, none⟩)) := by simp only [World.cell?]; rw [hn3]; rfl
          have c2 : w3.cell? ⟨w1.heap.size, 2, none⟩ = some (.int .i64 o.steps) := by simp only [World.cell?]; rw [hn3]; rfl
          have cl := lt_of_block hn3
          have d0 : w3.cell? ⟨w.heap.size + 1, 0, none⟩ = some (.pointer (some ⟨K.nb b.leaf, 0, none⟩)) := by simp only [World.cell?]; rw [hb33]; rfl
          have df0 : w3.frozen? ⟨w.heap.size + 1, 0, none⟩ = false := by simp only [World.frozen?]; rw [hb33]; rfl
          have d1 : w3.cell? ⟨w.heap.size + 1, 1, none⟩ = some (.pointer (some ⟨K.nb b.lend, 0, none⟩)) := by simp only [World.cell?]; rw [hb33]; rfl
          have df1 : w3.frozen? ⟨w.heap.size + 1, 1, none⟩ = false := by simp only [World.frozen?]; rw [hb33]; rfl
          have d2 : w3.cell? ⟨w.heap.size + 1, 2, none⟩ = some (.int .i64 b.steps) := by simp only [World.cell?]; rw [hb33]; rfl
          have df2 : w3.frozen? ⟨w.heap.size + 1, 2, none⟩ = false := by simp only [World.frozen?]; rw [hb33]; rfl
          have dl := lt_of_block hb33
          clear hn3 hb33 hb3 HN2 HB2 HA2 HO2 HZ2 HAH
          cases hah : aheadB K s o b with
          | true =>
            have HM : Hid (bestM K s now (i + 1) = some o) := by show bestM K s now (i + 1) = _; rw [HMM.out, hah]; rfl
            clear HMM hah
            go_wp2
            have hz : (((w3.setCell ⟨w.heap.size + 1, 0, none⟩ (.pointer (some ⟨K.nb o.leaf, 0, none⟩))).setCell ⟨w.heap.size + 1, 1, none⟩ (.pointer (some ⟨K.nb o.lend, 0, none⟩))).setCell ⟨w.heap.size + 1, 2, none⟩ (.int .i64 o.steps)).heap[w.heap.size + 1]? = some (.cells #[.pointer (some ⟨K.nb o.leaf, 0, none⟩), .pointer (some ⟨K.nb o.lend, 0, none⟩), .int .i64 o.steps] 98 (0, 0)) := by
              rw [heap_setCell_here (heap_setCell_here (heap_setCell_here HB3.out _) _) _]
              simp
            have hot : Ot (fun k => k = w.heap.size + 1) w3 (((w3.setCell ⟨w.heap.size + 1, 0, none⟩ (.pointer (some ⟨K.nb o.leaf, 0, none⟩))).setCell ⟨w.heap.size + 1, 1, none⟩ (.pointer (some ⟨K.nb o.lend, 0, none⟩))).setCell ⟨w.heap.size + 1, 2, none⟩ (.int .i64 o.steps)) := by
              repeat' (first | with_reducible exact Ot.refl _ _ | with_reducible refine Ot.setCell ?_ (by simp) _)
            have hrel : Hid (HtAt K (((w3.setCell ⟨w.heap.size + 1, 0, none⟩ (.pointer (some ⟨K.nb o.leaf, 0, none⟩))).setCell ⟨w.heap.size + 1, 1, none⟩ (.pointer (some ⟨K.nb o.lend, 0, none⟩))).setCell ⟨w.heap.size + 1, 2, none⟩ (.int .i64 o.steps)) s vs ow) ∧ Hid (Ot (HtF K vs) w (((w3.setCell ⟨w.heap.size + 1, 0, none⟩ (.pointer (some ⟨K.nb o.leaf, 0, none⟩))).setCell ⟨w.heap.size + 1, 1, none⟩ (.pointer (some ⟨K.nb o.lend, 0, none⟩))).setCell ⟨w.heap.size + 1, 2, none⟩ (.int .i64 o.steps))) ∧ Hid ((((w3.setCell ⟨w.heap.size + 1, 0, none⟩ (.pointer (some ⟨K.nb o.leaf, 0, none⟩))).setCell ⟨w.heap.size + 1, 1, none⟩ (.pointer (some ⟨K.nb o.lend, 0, none⟩))).setCell ⟨w.heap.size + 1, 2, none⟩ (.int .i64 o.steps)).heap[w.heap.size]? = some (.cells #[.pointer none, .pointer none, .int .i64 0] 98 (0, 0))) := ⟨HA3.out.kept (fun k hk => hot.block k (HA3.out.low k hk) (fun e => by have := HLW2.out k hk; omega)), HO3.out.trans' hot (fun k hk hlt => absurd hk (by omega)), (hot.block _ (lt_of_block HZ3.out) (by omega)).trans HZ3.out⟩
            go_roundw
            case rel => exact ⟨i + 1, by omega, by go_num, by rw [HM.out]; rfl, hrel.1, hrel.2.1, by rw [HM.out]; exact hz, hrel.2.2⟩
            case measure => simp [intOf]; omega
          | false =>
            have HM : Hid (bestM K s now (i + 1) = some b) := by show bestM K s now (i + 1) = _; rw [HMM.out, hah]; rfl
            clear HMM hah
            go_wp2
            go_roundw
            case rel => exact ⟨i + 1, by omega, by go_num, by rw [HM.out]; rfl, HA3, HO3, by rw [HM.out]; exact HB3.out, HZ3⟩
            case measure => simp [intOf]; omega
    · have hiN : i = K.N := by omega
      obtain ⟨R, hR⟩ : ∃ R, bestM K s now i = R := ⟨_, rfl⟩
      have HRR : Hid (bestM K s now K.N = R) := by show bestM K s now K.N = R; rw [← hiN]; exact hR
      rw [hR] at HB ⊢
      clear hR hiN
      cases R with
      | none =>
        have hb6 : wr.heap[w.heap.size + 1]? = some (.cells #[.pointer none, .pointer none, .int .i64 0] 98 (0, 0)) := HB.out
        have hz4 := HZ.out
        have a0 : wr.cell? ⟨w.heap.size + 1, 0, none⟩ = some (.pointer none) := by simp only [World.cell?]; rw [hb6]; rfl
        have a1 : wr.cell? ⟨w.heap.size + 1, 1, none⟩ = some (.pointer none) := by simp only [World.cell?]; rw [hb6]; rfl
        have a2 : wr.cell? ⟨w.heap.size + 1, 2, none⟩ = some (.int .i64 0) := by simp only [World.cell?]; rw [hb6]; rfl
        have al := lt_of_block hb6
        have b0 : wr.cell? ⟨w.heap.size, 0, none⟩ = some (.pointer none) := by simp only [World.cell?]; rw [hz4]; rfl
        have bf0 : wr.frozen? ⟨w.heap.size, 0, none⟩ = false := by simp only [World.frozen?]; rw [hz4]; rfl
        have b1 : wr.cell? ⟨w.heap.size, 1, none⟩ = some (.pointer none) := by simp only [World.cell?]; rw [hz4]; rfl
        have bf1 : wr.frozen? ⟨w.heap.size, 1, none⟩ = false := by simp only [World.frozen?]; rw [hz4]; rfl
        have b2 : wr.cell? ⟨w.heap.size, 2, none⟩ = some (.int .i64 0) := by simp only [World.cell?]; rw [hz4]; rfl
        have bf2 : wr.frozen? ⟨w.heap.size, 2, none⟩ = false := by simp only [World.frozen?]; rw [hz4]; rfl
        have bl := lt_of_block hz4
        clear hb6 hz4
        go_wp2
        (try simp only [Exit.inBlock, Exit.then])
        have hz : (((wr.setCell ⟨w.heap.size, 0, none⟩ (.pointer none)).setCell ⟨w.heap.size, 1, none⟩ (.pointer none)).setCell ⟨w.heap.size, 2, none⟩ (.int .i64 0)).heap[w.heap.size]? = some (.cells #[.pointer none, .pointer none, .int .i64 0] 98 (0, 0)) := by
          rw [heap_setCell_here (heap_setCell_here (heap_setCell_here HZ.out _) _) _]
          simp
        have hot : Ot (fun k => k = w.heap.size) wr (((wr.setCell ⟨w.heap.size, 0, none⟩ (.pointer none)).setCell ⟨w.heap.size, 1, none⟩ (.pointer none)).setCell ⟨w.heap.size, 2, none⟩ (.int .i64 0)) := by
          repeat' (first | with_reducible exact Ot.refl _ _ | with_reducible refine Ot.setCell ?_ (by simp) _)
        have hfin : Hid (HtAt K (((wr.setCell ⟨w.heap.size, 0, none⟩ (.pointer none)).setCell ⟨w.heap.size, 1, none⟩ (.pointer none)).setCell ⟨w.heap.size, 2, none⟩ (.int .i64 0)) s vs ow) ∧ Hid (Ot (HtF K vs) w (((wr.setCell ⟨w.heap.size, 0, none⟩ (.pointer none)).setCell ⟨w.heap.size, 1, none⟩ (.pointer none)).setCell ⟨w.heap.size, 2, none⟩ (.int .i64 0))) := ⟨HA.out.kept (fun k hk => hot.block k (HA.out.low k hk) (fun e => by have := HLW2.out k hk; omega)), HO.out.trans' hot (fun k hk hlt => absurd hk (by omega))⟩
        refine bodyPost_ret (v := .tuple #[.agg #[.pointer none, .pointer none, .int .i64 0], .bool false]) ?_ rfl ⟨by rw [HRR.out]; rfl, hfin⟩
        rw [results_cell_tmp rfl]
        simp [asAddr, Result.andThen, load_offer hz]
      | some o =>
        have hb6 : wr.heap[w.heap.size + 1]? = some (.cells #[.pointer (some ⟨K.nb o.leaf, 0, none⟩), .pointer (some ⟨K.nb o.lend, 0, none⟩), .int .i64 o.steps] 98 (0, 0)) := HB.out
        have hz4 := HZ.out
        have a0 : wr.cell? ⟨w.heap.size + 1, 0, none⟩ = some (.pointer (some ⟨K.nb o.leaf, 0, none⟩)) := by simp only [World.cell?]; rw [hb6]; rfl
        have a1 : wr.cell? ⟨w.heap.size + 1, 1, none⟩ = some (.pointer (some ⟨K.nb o.lend, 0, none⟩)) := by simp only [World.cell?]; rw [hb6]; rfl
        have a2 : wr.cell? ⟨w.heap.size + 1, 2, none⟩ = some (.int .i64 o.steps) := by simp only [World.cell?]; rw [hb6]; rfl
        have al := lt_of_block hb6
        have b0 : wr.cell? ⟨w.heap.size, 0, none⟩ = some (.pointer none) := by simp only [World.cell?]; rw [hz4]; rfl
        have bf0 : wr.frozen? ⟨w.heap.size, 0, none⟩ = false := by simp only [World.frozen?]; rw [hz4]; rfl
        have b1 : wr.cell? ⟨w.heap.size, 1, none⟩ = some (.pointer none) := by simp only [World.cell?]; rw [hz4]; rfl
        have bf1 : wr.frozen? ⟨w.heap.size, 1, none⟩ = false := by simp only [World.frozen?]; rw [hz4]; rfl
        have b2 : wr.cell? ⟨w.heap.size, 2, none⟩ = some (.int .i64 0) := by simp only [World.cell?]; rw [hz4]; rfl
        have bf2 : wr.frozen? ⟨w.heap.size, 2, none⟩ = false := by simp only [World.frozen?]; rw [hz4]; rfl
        have bl := lt_of_block hz4
        clear hb6 hz4
        go_wp2
        (try simp only [Exit.inBlock, Exit.then])
        have hz : (((wr.setCell ⟨w.heap.size, 0, none⟩ (.pointer (some ⟨K.nb o.leaf, 0, none⟩))).setCell ⟨w.heap.size, 1, none⟩ (.pointer (some ⟨K.nb o.lend, 0, none⟩))).setCell ⟨w.heap.size, 2, none⟩ (.int .i64 o.steps)).heap[w.heap.size]? = some (.cells #[.pointer (some ⟨K.nb o.leaf, 0, none⟩), .pointer (some ⟨K.nb o.lend, 0, none⟩), .int .i64 o.steps] 98 (0, 0)) := by
          rw [heap_setCell_here (heap_setCell_here (heap_setCell_here HZ.out _) _) _]
          simp
        have hot : Ot (fun k => k = w.heap.size) wr (((wr.setCell ⟨w.heap.size, 0, none⟩ (.pointer (some ⟨K.nb o.leaf, 0, none⟩))).setCell ⟨w.heap.size, 1, none⟩ (.pointer (some ⟨K.nb o.lend, 0, none⟩))).setCell ⟨w.heap.size, 2, none⟩ (.int .i64 o.steps)) := by
          repeat' (first | with_reducible exact Ot.refl _ _ | with_reducible refine Ot.setCell ?_ (by simp) _)
        have hfin : Hid (HtAt K (((wr.setCell ⟨w.heap.size, 0, none⟩ (.pointer (some ⟨K.nb o.leaf, 0, none⟩))).setCell ⟨w.heap.size, 1, none⟩ (.pointer (some ⟨K.nb o.lend, 0, none⟩))).setCell ⟨w.heap.size, 2, none⟩ (.int .i64 o.steps)) s vs ow) ∧ Hid (Ot (HtF K vs) w (((wr.setCell ⟨w.heap.size, 0, none⟩ (.pointer (some ⟨K.nb o.leaf, 0, none⟩))).setCell ⟨w.heap.size, 1, none⟩ (.pointer (some ⟨K.nb o.lend, 0, none⟩))).setCell ⟨w.heap.size, 2, none⟩ (.int .i64 o.steps))) := ⟨HA.out.kept (fun k hk => hot.block k (HA.out.low k hk) (fun e => by have := HLW2.out k hk; omega)), HO.out.trans' hot (fun k hk hlt => absurd hk (by omega))⟩
        refine bodyPost_ret (v := .tuple #[.agg #[.pointer (some ⟨K.nb o.leaf, 0, none⟩), .pointer (some ⟨K.nb o.lend, 0, none⟩), .int .i64 o.steps], .bool true]) ?_ rfl ⟨by rw [HRR.out]; rfl, hfin⟩
        rw [results_cell_tmp rfl]
        simp [asAddr, Result.andThen, load_offer hz]
end Go.Proofs.YtpgdocmpbeabpaaDoor
