/-
  Actions in memory, a program in memory, slices.Clone of actions, action.New: a program, or which error. Conditions: actions and buckets lie in memory.
-/
import Derived.Test.YtnoppfgikanebaaDoorAc1
import Derived.Test.YtnoppfgikanebaaDoorBk2
namespace Go.Proofs.YtnoppfgikanebaaDoor
open Go.RowKit Go.Extern.Stop Go.Stop Go.Extern

theorem infoAc : (Tryd.prog.info? 38).map (fun i => (i.zero, i.size, i.bytes)) = some (some (.agg #[.int .i64 0, .int .i64 0, .int .i64 0]), 3, 24) := by kernel_rfl
theorem infoSt : (Tryd.prog.info? 53).map (fun i => (i.zero, i.size, i.bytes)) = some (some (.pointer none), 1, 8) := by kernel_rfl
theorem flt_ones1 {α : Type} (cs : α → List Value) (h : ∀ x, ∀ u ∈ cs x, u.oneCell' = true) (l : List α) : ∀ u ∈ flt cs l, u.oneCell' = true := by
  intro u hu
  simp only [flt, List.mem_flatMap] at hu
  obtain ⟨x, _, hx⟩ := hu
  exact h x u hx
theorem Ac.one (x : Ac) : ∀ u ∈ x.cells, u.oneCell' = true := by simp [Ac.cells, Value.oneCell']
/-- Elements of an argument, one behind the other. -/
def ArgAt {α : Type} (cs : α → List Value) (w : World) (px : Option Addr) (L : List α) : Prop := L = [] ∨ ∃ b off, px = some ⟨b, off, none⟩ ∧ b < w.heap.size ∧ ∀ j u, (flt cs L)[j]? = some u → w.cell? ⟨b, off + j, none⟩ = some u
theorem ArgAt.below {α : Type} {cs : α → List Value} {w w' : World} {px : Option Addr} {L : List α} (h : ArgAt cs w px L) (hb : Below w.heap.size w w') : ArgAt cs w' px L := by
  rcases h with h | ⟨b, off, h1, h2, h3⟩
  · exact Or.inl h
  · exact Or.inr ⟨b, off, h1, Nat.lt_of_lt_of_le h2 hb.size, fun j u hj => (hb.cell h2).trans (h3 j u hj)⟩
theorem ArgAt.acts {w : World} {px : Option Addr} {L : List Ac} (h : ArgAt Ac.cells w px L) {i : Nat} {x : Ac} (hx : L[i]? = some x) : ∃ b off, px = some ⟨b, off, none⟩ ∧ b < w.heap.size ∧ w.cell? ⟨b, off + i * 3, none⟩ = some (.int .i64 x.k) ∧ w.cell? ⟨b, off + i * 3 + 1, none⟩ = some (.int .i64 x.a) ∧ w.cell? ⟨b, off + i * 3 + 2, none⟩ = some (.int .i64 x.b) := by
  rcases h with rfl | ⟨b, off, h1, h2, h3⟩
  · simp at hx
  · have k : ∀ j, j < 3 → ∀ u, x.cells[j]? = some u → w.cell? ⟨b, off + i * 3 + j, none⟩ = some u := by
      intro j hj u hu
      rw [Nat.add_assoc]
      exact h3 _ _ ((flt_at Ac.cells 3 Ac.cells_len hx hj).trans hu)
    exact ⟨b, off, h1, h2, k 0 (by omega) _ rfl, k 1 (by omega) _ rfl, k 2 (by omega) _ rfl⟩

/-! ### slices.Clone of actions -/
theorem nilSomeA (a : Addr) (n c : Nat) (w : World) : (binOp .eql 22 (.slice (some a) n c) (.slice none 0 0)).run Tryd.prog w = .ok (.bool false) w := by kernel_rfl
theorem nilNoneA (w : World) : (binOp .eql 22 (.slice none 0 0) (.slice none 0 0)).run Tryd.prog w = .ok (.bool true) w := by kernel_rfl
theorem seg_emptyA {w : World} {b : Nat} {e : TypeId} {k : Nat} (h : w.heap[b]? = some (.cells #[] e (0, 0))) : Seg w e k (.slice (some ⟨b, 0, none⟩) 0 0) 0 [] := ⟨by simp, Or.inr ⟨b, 0, 0, #[], rfl, h, Nat.le_refl _, Nat.zero_le _, by simp, fun j u hj => by simp at hj⟩⟩
set_option maxHeartbeats 1000000 in
theorem cloneA {px : Option Addr} {cap : Nat} {L : List Ac} (w : World) (h : ArgAt Ac.cells w px L) (hn : px = none → L = [] ∧ cap = 0) (hm : L.length ≤ 1000000) :
    Calls Tryd.prog 12 #[.slice px L.length cap] w fun e w' => ∃ tv, e = .returned tv ∧ Seg w' 38 3 tv L.length (flt Ac.cells L) ∧ (∀ k, tv.ownBlock = some k → w.heap.size ≤ k) ∧ Below w.heap.size w w' := by
  have hnS := nilSomeA
  have hnN := nilNoneA
  obtain ⟨i0, hi, hz0, hz1, hz2⟩ := info_parts infoAc
  cases px with
  | none =>
    obtain ⟨rfl, rfl⟩ := hn rfl
    clear h hn
    go_enter Tryd.func12, Tryd.ntmps12
    go_wp2
    go_ret
    exact ⟨_, rfl, Seg.nil _ _ _, fun k hk => by simp [Value.ownBlock] at hk, Below.refl _ _⟩
  | some a =>
    by_cases hm0 : L.length = 0
    · obtain rfl : L = [] := List.eq_nil_of_length_eq_zero hm0
      clear h hn
      simp only [List.length_nil]
      go_enter Tryd.func12, Tryd.ntmps12
      go_wp2
      go_ret
      exact ⟨.slice (some ⟨w.heap.size, 0, none⟩) 0 0, rfl, seg_emptyA (new_block_ rfl), fun k hk => by simp [Value.ownBlock] at hk; omega, below_alloc_ (Below.refl _ _) _⟩
    · obtain ⟨pb, poff, hpa, hpb, hpc⟩ : ∃ b off, some a = some ⟨b, off, none⟩ ∧ b < w.heap.size ∧ ∀ j u, (flt Ac.cells L)[j]? = some u → w.cell? ⟨b, off + j, none⟩ = some u := by
        rcases h with h | h
        · subst h; simp at hm0
        · exact h
      obtain rfl := Option.some.inj hpa
      have HC : Hid (∀ j u, (flt Ac.cells L)[j]? = some u → w.cell? ⟨pb, poff + j, none⟩ = some u) := hpc
      have HFL : Hid ((flt Ac.cells L).length = L.length * 3) := flt_length Ac.cells 3 Ac.cells_len L
      have HON : Hid (∀ u ∈ flt Ac.cells L, u.oneCell' = true) := flt_ones1 Ac.cells Ac.one L
      clear h hn hpc hpa
      generalize flt Ac.cells L = fl at *
      generalize L.length = m at *
      go_enter Tryd.func12, Tryd.ntmps12
      go_wp2_with (at_builtin; refine wpList_append_seg _ rfl (.tmp 5) (.tmp 6) 22 rfl 38 i0 _ 3 24 Tryd.underlying22 hi hz0 hz1 hz2 rfl (by decide) (.slice (some ⟨w.heap.size, 0, none⟩) 0 0) 0 [] rfl (seg_emptyA (new_block_ rfl)) ⟨pb, poff, none⟩ m cap fl rfl HFL.out (fun j u hj => by { rw [Addr.add_lit, World.cell?_alloc_lt _ _ _ (by exact hpb)]; exact HC.out j u hj }) HON.out (by omega) (by unfold maxLen; omega) (by omega) _ rfl ?_; intro g goff gcap w1 hs1 hg1 ha1 hl1)
      go_ret
      refine ⟨.slice (some ⟨g, goff, none⟩) m gcap, by simp, ?_, fun k hk => ?_, below_grown_ (below_alloc_ (Below.refl _ _) _) hg1 (fun k hk => by simp [Value.ownBlock] at hk; omega)⟩
      · simpa using hs1
      · simp only [Value.ownBlock, Option.some.injEq] at hk
        subst hk
        rcases ha1 with h | h
        · simp [Value.ownBlock] at h; omega
        · simp at h; omega

/-! ### A program in memory -/
/-- A bucket on its way. -/
structure Bs where
  n : Int
  t : Int
  R : Int
  lev : Int
  lat : Int
structure Bs.ok (b : Bs) : Prop where
  okb : okB b.n b.t b.R
  l0 : 0 ≤ b.lev
  l1 : b.lev ≤ b.R * b.t
  t0 : 0 ≤ b.lat
def ptrS (s : Nat) : Value := .pointer (some ⟨s, 0, none⟩)
structure PrAt (w : World) (H0 pb : Nat) (av bv : Value) (ps : List Nat) (L : List Ac) (C : List Int) (B : List Bs) : Prop where
  hd : w.heap[pb]? = some (.cells (av :: bv :: C.map (Value.int .i64)).toArray 48 (0, 0))
  cl : C.length = 8
  acts : Seg w 38 3 av L.length (flt Ac.cells L)
  bks : Seg w 53 1 bv B.length (ps.map ptrS)
  nd : ps.Nodup
  st : ∀ (i s : Nat) (b : Bs), ps[i]? = some s → B[i]? = some b → StAt w s b.n b.t b.R b.lev b.lat ∧ b.ok
  hb : H0 ≤ pb
  hs : ∀ s ∈ ps, H0 ≤ s
theorem PrAt.len {w : World} {H0 pb : Nat} {av bv : Value} {ps : List Nat} {L : List Ac} {C : List Int} {B : List Bs} (h : PrAt w H0 pb av bv ps L C B) : ps.length = B.length := by
  have := h.bks.1
  simpa using this
theorem PrAt.below {w w' : World} {H0 pb : Nat} {av bv : Value} {ps : List Nat} {L : List Ac} {C : List Int} {B : List Bs} (h : PrAt w H0 pb av bv ps L C B) (hb : Below w.heap.size w w') : PrAt w' H0 pb av bv ps L C B :=
  ⟨(hb.block pb (lt_of_block h.hd)).trans h.hd, h.cl, h.acts.below hb, h.bks.below hb, h.nd, fun i s b h1 h2 => by
    obtain ⟨k1, k2⟩ := h.st i s b h1 h2
    exact ⟨k1.same (hb.block s k1.lt), k2⟩, h.hb, h.hs⟩
theorem PrAt.alloc {w : World} {H0 pb : Nat} {av bv : Value} {ps : List Nat} {L : List Ac} {C : List Int} {B : List Bs} (h : PrAt w H0 pb av bv ps L C B) (o : Obj) : PrAt (w.alloc o) H0 pb av bv ps L C B := h.below (below_alloc_ (Below.refl _ _) _)
theorem PrAt.lt {w : World} {H0 pb : Nat} {av bv : Value} {ps : List Nat} {L : List Ac} {C : List Int} {B : List Bs} (h : PrAt w H0 pb av bv ps L C B) : pb < w.heap.size := lt_of_block h.hd
theorem PrAt.cell {w : World} {H0 pb : Nat} {av bv : Value} {ps : List Nat} {L : List Ac} {C : List Int} {B : List Bs} (h : PrAt w H0 pb av bv ps L C B) {i : Nat} {u : Value} (hi : (av :: bv :: C.map (Value.int .i64))[i]? = some u) : w.cell? ⟨pb, i, none⟩ = some u ∧ w.frozen? ⟨pb, i, none⟩ = false := by
  refine ⟨?_, by simp [World.frozen?, h.hd]⟩
  simp only [World.cell?, h.hd]
  simpa using hi
theorem noEqT {w : World} {a b : Nat} {x y : Array Value} {s t : TypeId} {f g : Nat × Nat} (h1 : w.heap[a]? = some (.cells x s f)) (h2 : w.heap[b]? = some (.cells y t g)) (hne : s ≠ t) : a ≠ b := by
  rintro rfl
  rw [h1] at h2
  simp only [Option.some.injEq, Obj.cells.injEq] at h2
  exact hne h2.2.1
/-- A bucket that is appended. -/
theorem PrAt.push {w w1 : World} {H0 pb : Nat} {av bv bv' : Value} {ps : List Nat} {L : List Ac} {C : List Int} {B : List Bs} (h : PrAt w H0 pb av bv ps L C B) {s : Nat} {b : Bs} (hst : StAt w s b.n b.t b.R b.lev b.lat) (hok : b.ok) (hH : H0 ≤ s) (hnew : s ∉ ps)
    (hseg : Seg w1 53 1 bv' (B.length + 1) (ps.map ptrS ++ [ptrS s])) (hg : w.grownBy w1 bv.ownBlock) (hpb' : ∀ k, bv'.ownBlock = some k → k ≠ pb) : PrAt (w1.setCell ⟨pb, 1, none⟩ bv') H0 pb av bv' (ps ++ [s]) L C (B ++ [b]) := by
  have hown : ∀ k, bv.ownBlock = some k → ∃ cur, w.heap[k]? = some (.cells cur 53 (0, 0)) := fun k hk => h.bks.ty hk
  have hpb : w1.heap[pb]? = w.heap[pb]? := hg.block pb h.lt (fun e => by
    obtain ⟨cur, hc⟩ := hown pb e.symm
    exact noEqT h.hd hc (by decide) rfl)
  have hst' : ∀ s' (b' : Bs), StAt w s' b'.n b'.t b'.R b'.lev b'.lat → StAt (w1.setCell ⟨pb, 1, none⟩ bv') s' b'.n b'.t b'.R b'.lev b'.lat := by
    intro s' b' hs'
    refine hs'.same ?_
    rw [Below.heap_setCell _ _ _ _ (noEqT hs'.2 h.hd (by decide))]
    refine hg.block s' hs'.lt (fun e => ?_)
    obtain ⟨cur, hc⟩ := hown s' e.symm
    exact noEqT hs'.2 hc (by decide) rfl
  refine ⟨?_, h.cl, ?_, ?_, ?_, ?_, h.hb, ?_⟩
  · rw [heap_setCell_here (hpb.trans h.hd)]
    simp
  · refine (h.acts.kept fun k hk => ?_)
    obtain ⟨cur, hc⟩ := h.acts.ty hk
    rw [Below.heap_setCell _ _ _ _ (noEqT hc h.hd (by decide))]
    refine hg.block k (lt_of_block hc) (fun e => ?_)
    obtain ⟨cur', hc'⟩ := hown k e.symm
    exact noEqT hc hc' (by decide) rfl
  · rw [List.length_append, List.map_append]
    exact hseg.setCell (fun e => hpb' _ e rfl) _
  · rw [List.nodup_append]
    exact ⟨h.nd, by simp, fun a ha c hc => by simp at hc; subst hc; exact fun e => hnew (e ▸ ha)⟩
  · intro i s' b' h1 h2
    have hl := h.len
    rw [List.getElem?_append] at h1 h2
    rw [hl] at h1
    split at h1
    · rename_i hi
      rw [if_pos hi] at h2
      obtain ⟨k1, k2⟩ := h.st i s' b' h1 h2
      exact ⟨hst' _ _ k1, k2⟩
    · rename_i hi
      rw [if_neg hi] at h2
      have hi' : i - B.length = 0 := by
        have := (List.getElem?_eq_some_iff.1 h1).1
        simp at this; exact this
      rw [hi'] at h1 h2
      simp only [List.getElem?_cons_zero, Option.some.injEq] at h1 h2
      subst h1 h2
      exact ⟨hst' _ _ hst, hok⟩
  · intro s' hs'
    rcases List.mem_append.1 hs' with h' | h'
    · exact h.hs _ h'
    · simp at h'; subst h'; exact hH
end Go.Proofs.YtnoppfgikanebaaDoor
