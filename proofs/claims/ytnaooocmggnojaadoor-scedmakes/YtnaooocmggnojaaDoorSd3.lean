/-
  A row of a flow's cells in memory; slices.IndexFunc over ints; (*row).add. Conditions: the row, and what is served, lie in memory.
-/
import Derived.Test.YtnaooocmggnojaaDoorSd2
namespace Go.Proofs.YtnaooocmggnojaaDoor
open Go.RowKit Go.Extern.Stop Go.Stop Go.Extern

set_option maxHeartbeats 1000000 in
theorem indexI_any (cf : Nat) (caps : Array Value) (x : Option Addr) (cap n : Nat) (f : Nat → Int) (p : Nat → Bool) (w : World) (hx : Row w x n f) (b0 : n ≤ 1000) (hent : ∀ (args : Array Value) (W : World), (callFunc cf args).run Tryd.prog W = .ok (.enter cf args) W)
    (hstep : ∀ k, k < n → Calls Tryd.prog cf (#[.int .i64 (f k)] ++ caps) w fun e w' => e = .returned (.bool (p k)) ∧ w' = w) :
    Calls Tryd.prog 39 #[.slice x n cap, .func (.func cf) #[] caps] w fun e w' => e = .returned (.int .i64 (fixI p n)) ∧ w' = w := by
  have HX : Hid (Row w x n f) := hx
  have HST : Hid (∀ k, k < n → Calls Tryd.prog cf (#[.int .i64 (f k)] ++ caps) w fun e w' => e = .returned (.bool (p k)) ∧ w' = w) := hstep
  clear hx hstep
  go_enter Tryd.func39, Tryd.ntmps39
  go_wp2
  go_loop [8] (fun i => ∃ k : Nat, k ≤ n ∧ i = .int .i64 k ∧ Hid (∀ j, j < k → p j = false)) (fun i => n - (intOf i).toNat)
  case atStart => exact ⟨0, Nat.zero_le _, rfl, fun j hj => by omega⟩
  case round =>
    obtain ⟨k, hk, rfl, HF⟩ := hrel
    by_cases hlt : k < n
    · obtain ⟨b, off, rfl⟩ := HX.out.some (by omega)
      have c0 := HX.out.at hlt
      have HS := HST.out k hlt
      have HS' : Hid (Calls Tryd.prog cf (#[.int .i64 (f k)] ++ caps) w fun e w' => e = .returned (.bool (p k)) ∧ w' = w) := HS
      clear HS
      go_wp2_with fail
      refine HS'.out.mono ?_
      rintro e w' ⟨rfl, rfl⟩
      cases hp : p k with
      | true =>
        have HE : Hid (fixI p n = k) := by
          show fixI p n = k
          unfold fixI
          rw [ff_eq hlt hp HF.out, if_pos hlt]
        clear hp
        go_wp2
        go_ret
        exact ⟨by rw [HE.out]; rfl, rfl⟩
      | false =>
        have HF' : Hid (∀ j, j < k + 1 → p j = false) := fun j hj => by
          by_cases e : j = k
          · subst e; exact hp
          · exact HF.out j (by omega)
        clear hp
        go_wp2
        go_round
        case rel => exact ⟨k + 1, by omega, by go_num, HF'⟩
        case measure => simp [intOf]; omega
    · obtain rfl : k = n := by omega
      have HE : Hid (fixI p k = -1) := by
        show fixI p k = -1
        unfold fixI
        rw [ff_none HF.out, if_neg (by omega)]
      go_wp2
      go_ret
      exact ⟨by rw [HE.out]; rfl, rfl⟩
theorem entersAdd (args : Array Value) (W : World) : (callFunc 40 args).run Tryd.prog W = .ok (.enter 40 args) W := enters_of Tryd.func40 (by kernel_rfl) rfl args W
theorem add1_any (v u : Int) (c : Nat) (w : World) (h : w.cell? ⟨c, 0, none⟩ = some (.int .i64 u)) :
    Calls Tryd.prog 40 #[.int .i64 v, .pointer (some ⟨c, 0, none⟩)] w fun e w' => e = .returned (.bool (decide (u ≤ v))) ∧ w' = w := by
  go_enter Tryd.func40, Tryd.ntmps40
  go_wp2
  go_ret
  exact ⟨rfl, rfl⟩

/-! ### A row in memory -/
structure RwAt (w : World) (r cb : Nat) (pv tv : Value) (n : Nat) (c : Nat → Int) (k : Nat) (P T : Nat → Int) (h g : Int) : Prop where
  blk : w.heap[r]? = some (.cells #[.slice (some ⟨cb, 0, none⟩) n n, pv, tv, .int .i64 h, .int .i64 g] 74 (0, 0))
  cty : ∃ cur, w.heap[cb]? = some (.cells cur 3 (0, 0)) ∧ ∀ i, i < n → cur[i]? = some (.int .i64 (c i))
  prom : Seg w 3 1 pv k (vals P k)
  thru : Seg w 3 1 tv k (vals T k)
  dpc : pv.ownBlock ≠ some cb
  dtc : tv.ownBlock ≠ some cb
  dpt : ∀ b, pv.ownBlock = some b → tv.ownBlock ≠ some b
variable {w w' : World} {r cb : Nat} {pv tv : Value} {n : Nat} {c : Nat → Int} {k : Nat} {P T : Nat → Int} {h g : Int}
theorem RwAt.lt (H : RwAt w r cb pv tv n c k P T h g) : r < w.heap.size := lt_of_block H.blk
theorem RwAt.clt (H : RwAt w r cb pv tv n c k P T h g) : cb < w.heap.size := by
  obtain ⟨cur, hc, _⟩ := H.cty
  exact lt_of_block hc
theorem ty_ne {w : World} {a b : Nat} {u v : Array Value} {fr gr : Nat × Nat} (ha : w.heap[a]? = some (.cells u 74 fr)) (hb : w.heap[b]? = some (.cells v 3 gr)) : a ≠ b := by
  rintro rfl
  rw [ha] at hb
  simp at hb
theorem RwAt.rc (H : RwAt w r cb pv tv n c k P T h g) : r ≠ cb := by
  obtain ⟨cur, hc, _⟩ := H.cty
  exact ty_ne H.blk hc
theorem RwAt.rp (H : RwAt w r cb pv tv n c k P T h g) : pv.ownBlock ≠ some r := fun e => by
  obtain ⟨cur, hc⟩ := H.prom.ty e
  exact ty_ne H.blk hc rfl
theorem RwAt.rt (H : RwAt w r cb pv tv n c k P T h g) : tv.ownBlock ≠ some r := fun e => by
  obtain ⟨cur, hc⟩ := H.thru.ty e
  exact ty_ne H.blk hc rfl
theorem RwAt.come (H : RwAt w r cb pv tv n c k P T h g) : Row w (some ⟨cb, 0, none⟩) n c := by
  obtain ⟨cur, hc, h1⟩ := H.cty
  exact Or.inr ⟨cb, 0, rfl, fun i hi => by simp only [World.cell?, hc, Nat.zero_add]; exact h1 i hi⟩
/-- Where none of its blocks has turned. -/
theorem RwAt.kept (H : RwAt w r cb pv tv n c k P T h g) (h0 : w'.heap[r]? = w.heap[r]?) (h1 : w'.heap[cb]? = w.heap[cb]?) (h2 : ∀ b, pv.ownBlock = some b → w'.heap[b]? = w.heap[b]?) (h3 : ∀ b, tv.ownBlock = some b → w'.heap[b]? = w.heap[b]?) : RwAt w' r cb pv tv n c k P T h g :=
  ⟨h0.trans H.blk, by obtain ⟨cur, hc, h4⟩ := H.cty; exact ⟨cur, h1.trans hc, h4⟩, H.prom.kept h2, H.thru.kept h3, H.dpc, H.dtc, H.dpt⟩
theorem RwAt.below (H : RwAt w r cb pv tv n c k P T h g) (hb : Below w.heap.size w w') : RwAt w' r cb pv tv n c k P T h g :=
  H.kept (hb.block _ H.lt) (hb.block _ H.clt) (fun b e => hb.block b (H.prom.lt e)) (fun b e => hb.block b (H.thru.lt e))
theorem RwAt.ot {S : Nat → Prop} (H : RwAt w r cb pv tv n c k P T h g) (ho : Ot S w w') (h0 : ¬ S r) (h1 : ¬ S cb) (h2 : ∀ b, pv.ownBlock = some b → ¬ S b) (h3 : ∀ b, tv.ownBlock = some b → ¬ S b) : RwAt w' r cb pv tv n c k P T h g :=
  H.kept (ho.block _ H.lt h0) (ho.block _ H.clt h1) (fun b e => ho.block b (H.prom.lt e) (h2 b e)) (fun b e => ho.block b (H.thru.lt e) (h3 b e))
theorem cells_of {w : World} {r : Nat} {a0 a1 a2 a3 a4 : Value} {t : TypeId} (h : w.heap[r]? = some (.cells #[a0, a1, a2, a3, a4] t (0, 0))) :
    (w.cell? ⟨r, 0, none⟩ = some a0 ∧ w.cell? ⟨r, 1, none⟩ = some a1 ∧ w.cell? ⟨r, 2, none⟩ = some a2 ∧ w.cell? ⟨r, 3, none⟩ = some a3 ∧ w.cell? ⟨r, 4, none⟩ = some a4) ∧
    (w.frozen? ⟨r, 1, none⟩ = false ∧ w.frozen? ⟨r, 2, none⟩ = false ∧ w.frozen? ⟨r, 3, none⟩ = false ∧ w.frozen? ⟨r, 4, none⟩ = false) := by
  refine ⟨⟨?_, ?_, ?_, ?_, ?_⟩, ?_, ?_, ?_, ?_⟩ <;> simp [World.cell?, World.frozen?, h]
theorem Seg.slc {w : World} {e : TypeId} {q : Nat} {v : Value} {n : Nat} {xs : List Value} (h : Seg w e q v n xs) : ∃ x cap, v = .slice x n cap := by
  rcases h.form with ⟨rfl, rfl, _⟩ | ⟨b, off, cap, rfl, _⟩
  · exact ⟨none, 0, rfl⟩
  · exact ⟨_, _, rfl⟩
theorem seg_snoc {w : World} {v : Value} {k : Nat} {P : Nat → Int} (hs : Seg w 3 1 v (k + 1) (vals P k ++ [.int .i64 (P k)])) : Seg w 3 1 v (k + 1) (vals P (k + 1)) := by
  rw [vals_succ]; exact hs
/-- What add leaves. -/
structure AddR (w w' : World) (r cb : Nat) (pv tv : Value) (n : Nat) (c : Nat → Int) (k : Nat) (P T : Nat → Int) (h g : Int) : Prop where
  ex : ∃ pv' tv', RwAt w' r cb pv' tv' n c (k + 1) P T h g ∧ (∀ b, pv'.ownBlock = some b → pv.ownBlock = some b ∨ w.heap.size ≤ b) ∧ (∀ b, tv'.ownBlock = some b → tv.ownBlock = some b ∨ w.heap.size ≤ b)
  ot : Ot (fun b => b = r ∨ pv.ownBlock = some b ∨ tv.ownBlock = some b) w w'

theorem add_fin {w w1 w2 w4 : World} {r cb g1 off1 cap1 g2 off2 cap2 : Nat} {pv tv : Value} {n : Nat} {c : Nat → Int} {k : Nat} {P T : Nat → Int} {h g : Int} {o1 o2 : Obj} (H : RwAt w r cb pv tv n c k P T h g)
    (hb : Below w.heap.size w w1) (hs2 : Seg w2 3 1 (.slice (some ⟨g1, off1, none⟩) (k + 1) cap1) (k + 1) (vals P k ++ [.int .i64 (P k)])) (hg2 : (w1.alloc o1).grownBy w2 pv.ownBlock) (ha2 : pv.ownBlock = some g1 ∨ w1.heap.size ≤ g1) (hl2 : g1 < w2.heap.size)
    (hs4 : Seg w4 3 1 (.slice (some ⟨g2, off2, none⟩) (k + 1) cap2) (k + 1) (vals T k ++ [.int .i64 (T k)])) (hg4 : ((w2.setCell ⟨r, 1, none⟩ (.slice (some ⟨g1, off1, none⟩) (k + 1) cap1)).alloc o2).grownBy w4 tv.ownBlock) (ha4 : tv.ownBlock = some g2 ∨ w2.heap.size ≤ g2)
    (hb4 : w4.heap[r]? = some (.cells #[.slice (some ⟨cb, 0, none⟩) n n, .slice (some ⟨g1, off1, none⟩) (k + 1) cap1, tv, .int .i64 h, .int .i64 g] 74 (0, 0))) :
    AddR w (w4.setCell ⟨r, 2, none⟩ (.slice (some ⟨g2, off2, none⟩) (k + 1) cap2)) r cb pv tv n c k P T h g := by
  have hO2 : Ot (fun b => pv.ownBlock = some b) w w2 := Ot.grown (Ot.of_below (below_alloc_ hb _)) hg2 (fun _ e => Or.inl e)
  have hO3 : Ot (fun b => b = r ∨ pv.ownBlock = some b ∨ tv.ownBlock = some b) w ((w2.setCell ⟨r, 1, none⟩ (.slice (some ⟨g1, off1, none⟩) (k + 1) cap1)).alloc o2) := (Ot.setCell (p := ⟨r, 1, none⟩) (hO2.mono (T := fun b => b = r ∨ pv.ownBlock = some b ∨ tv.ownBlock = some b) (fun _ _ e => Or.inr (Or.inl e))) (Or.inl (Or.inl rfl)) _).alloc _
  have hO4 : Ot (fun b => b = r ∨ pv.ownBlock = some b ∨ tv.ownBlock = some b) w w4 := hO3.grown hg4 (fun _ e => Or.inl (Or.inr (Or.inr e)))
  have hO5 : Ot (fun b => b = r ∨ pv.ownBlock = some b ∨ tv.ownBlock = some b) w (w4.setCell ⟨r, 2, none⟩ (.slice (some ⟨g2, off2, none⟩) (k + 1) cap2)) := Ot.setCell (p := ⟨r, 2, none⟩) hO4 (Or.inl (Or.inl rfl)) _
  have hr := H.lt
  have hc := H.clt
  have s1 := hb.size
  have s2 := hO2.size
  have n1 : g1 ≠ cb := by
    rintro rfl
    rcases ha2 with e | e
    · exact H.dpc e
    · omega
  have n2 : g2 ≠ cb := by
    rintro rfl
    rcases ha4 with e | e
    · exact H.dtc e
    · omega
  have n3 : g1 ≠ r := by
    rintro rfl
    rcases ha2 with e | e
    · exact H.rp e
    · omega
  have n4 : g2 ≠ r := by
    rintro rfl
    rcases ha4 with e | e
    · exact H.rt e
    · omega
  have n5 : tv.ownBlock ≠ some g1 := fun e => by
    rcases ha2 with e' | e'
    · exact H.dpt g1 e' e
    · have := H.thru.lt e; omega
  have n6 : g1 ≠ g2 := by
    rintro rfl
    rcases ha4 with e | e
    · exact n5 e
    · omega
  refine ⟨⟨.slice (some ⟨g1, off1, none⟩) (k + 1) cap1, .slice (some ⟨g2, off2, none⟩) (k + 1) cap2, ⟨?_, ?_, ?_, ?_, ?_, ?_, ?_⟩, ?_, ?_⟩, hO5⟩
  · exact heap_setCell_here hb4 _
  · obtain ⟨cur, h1, h2⟩ := H.cty
    refine ⟨cur, (hO5.block cb hc ?_).trans h1, h2⟩
    rintro (e | e | e)
    · exact H.rc e.symm
    · exact H.dpc e
    · exact H.dtc e
  · have q1 : Seg ((w2.setCell ⟨r, 1, none⟩ (.slice (some ⟨g1, off1, none⟩) (k + 1) cap1)).alloc o2) 3 1 (.slice (some ⟨g1, off1, none⟩) (k + 1) cap1) (k + 1) (vals P (k + 1)) := ((seg_snoc hs2).setCell (by simpa [Value.ownBlock] using n3) _).alloc _
    have q2 : Seg w4 3 1 (.slice (some ⟨g1, off1, none⟩) (k + 1) cap1) (k + 1) (vals P (k + 1)) := q1.kept fun b e => hg4.block b (q1.lt e) (fun e' => by
      simp only [Value.ownBlock, Option.some.injEq] at e
      subst e
      exact n5 e'.symm)
    exact q2.setCell (by simpa [Value.ownBlock] using n3) _
  · exact (seg_snoc hs4).setCell (by simpa [Value.ownBlock] using n4) _
  · simpa [Value.ownBlock] using n1
  · simpa [Value.ownBlock] using n2
  · intro b e
    simp only [Value.ownBlock, Option.some.injEq] at e
    subst e
    intro e'
    exact n6 (by simpa [Value.ownBlock] using e'.symm)
  · intro b e
    simp only [Value.ownBlock, Option.some.injEq] at e
    subst e
    rcases ha2 with e' | e'
    · exact Or.inl e'
    · exact Or.inr (by omega)
  · intro b e
    simp only [Value.ownBlock, Option.some.injEq] at e
    subst e
    rcases ha4 with e' | e'
    · exact Or.inl e'
    · exact Or.inr (by omega)

set_option maxRecDepth 20000 in
set_option maxHeartbeats 2000000 in
theorem add_any (w : World) (s cs N : Nat) (S : Nat → Int) (H : RwAt w r cb pv tv n c k P T h g) (hS : Row w (some ⟨s, 0, none⟩) N S) (hN : N ≤ 1000) (hk : k < 1000000)
    (hP : P k = fixI (fun t => decide ((k : Int) + 1 ≤ S t)) N) (hT : T k = -1) :
    Calls Tryd.prog 35 #[.pointer (some ⟨r, 0, none⟩), .slice (some ⟨s, 0, none⟩) N cs] w fun e w' => e = .returned (.tuple #[]) ∧ AddR w w' r cb pv tv n c k P T h g := by
  obtain ⟨i0, hi, hz0, hz1, hz2⟩ := info_parts infoInt
  obtain ⟨px, pcap, rfl⟩ := H.prom.slc
  obtain ⟨tx, tcap, rfl⟩ := H.thru.slc
  obtain ⟨⟨c0, c1, c2, c3, c4⟩, f1, f2, f3, f4⟩ := cells_of H.blk
  have hr := H.lt
  have HH : Hid (RwAt w r cb (.slice px k pcap) (.slice tx k tcap) n c k P T h g) := H
  have HS : Hid (Row w (some ⟨s, 0, none⟩) N S) := hS
  have HP : Hid (fixI (fun t => decide ((k : Int) + 1 ≤ S t)) N = P k) := hP.symm
  have HT : Hid (-1 = T k) := hT.symm
  clear H hS hP hT
  have HB0 : Hid (∀ o, Below w.heap.size w (w.alloc o)) := fun o => (Below.refl _ _).alloc (Nat.le_refl _) o
  go_enter Tryd.func35, Tryd.ntmps35
  go_wp2_with fail
  refine (indexI_any 40 #[.pointer (some ⟨w.heap.size, 0, none⟩)] (some ⟨s, 0, none⟩) cs N S (fun t => decide ((k : Int) + 1 ≤ S t)) _ (HS.out.below (HB0.out _)) hN entersAdd (fun j hj => add1_any _ _ _ _ (by simp))).mono ?_
  rw [HP.out]
  rintro e w1 ⟨rfl, hw1⟩
  have HW1 : Hid (Below w.heap.size w w1) := by subst hw1; exact HB0.out _
  have hr1 : r < w1.heap.size := Nat.lt_of_lt_of_le hr HW1.out.size
  obtain ⟨⟨d0, d1, d2, d3, d4⟩, e1, e2, e3, e4⟩ := cells_of (HH.out.below HW1.out).blk
  clear c0 c1 c2 c3 c4 f1 f2 f3 f4 hw1
  go_wp2_with (first | (at_builtin; refine wpList_append_seg _ rfl (.tmp 29) (.tmp 30) 36 rfl 3 i0 _ 1 8 Tryd.underlying36 hi hz0 hz1 hz2 rfl (by decide) (.slice tx k tcap) k (vals T k) rfl (HTV.out _ _) ⟨w2.heap.size, 0, none⟩ 1 1 [.int .i64 (-1)] rfl rfl (news_of (new_block_ (by simp))) (by simp [Value.oneCell']) (by decide) (by unfold maxLen; omega) (by omega) _ rfl ?_; intro g2 off2 cap2 w4 hs4 hg4 ha4 hl4; have hb4 := HB4.out _ _ _ hg4; obtain ⟨⟨d0, d1, d2, d3, d4⟩, e1, e2, e3, e4⟩ := cells_of hb4; have hr4 := lt_of_block hb4) | (at_builtin; refine wpList_append_seg _ rfl (.tmp 19) (.tmp 21) 36 rfl 3 i0 _ 1 8 Tryd.underlying36 hi hz0 hz1 hz2 rfl (by decide) (.slice px k pcap) k (vals P k) rfl (Seg.below HH.out.prom (below_alloc_ HW1.out _)) ⟨w1.heap.size, 0, none⟩ 1 1 [.int .i64 (P k)] rfl rfl (news_of (new_block_ (by simp))) (by simp [Value.oneCell']) (by decide) (by unfold maxLen; omega) (by omega) _ rfl ?_; intro g1 off1 cap1 w2 hs2 hg2 ha2 hl2; have hb2 := ((hg2.block r (by simp; omega) (fun e => HH.out.rp e.symm)).trans (Below.heap_alloc _ _ _ hr1)).trans (HH.out.below HW1.out).blk; have hw2 : Ot (fun b => Value.ownBlock (.slice px k pcap) = some b) w w2 := Ot.grown (Ot.of_below (below_alloc_ HW1.out _)) hg2 (fun _ e => Or.inl e); have HW2 : Hid (Ot (fun b => Value.ownBlock (.slice px k pcap) = some b) w w2) := hw2; have HTV : Hid (∀ u o, Seg ((w2.setCell ⟨r, 1, none⟩ u).alloc o) 3 1 (.slice tx k tcap) k (vals T k)) := (fun u o => ((HH.out.thru.oth HW2.out (fun b e e' => HH.out.dpt b e' e)).setCell HH.out.rt u).alloc o); have HB2 : Hid (w2.heap[r]? = some (.cells #[.slice (some ⟨cb, 0, none⟩) n n, .slice px k pcap, .slice tx k tcap, .int .i64 h, .int .i64 g] 74 (0, 0))) := hb2; have HB4 : Hid (∀ u o w4, ((w2.setCell ⟨r, 1, none⟩ u).alloc o).grownBy w4 (Value.ownBlock (.slice tx k tcap)) → w4.heap[r]? = some (.cells #[.slice (some ⟨cb, 0, none⟩) n n, u, .slice tx k tcap, .int .i64 h, .int .i64 g] 74 (0, 0))) := (fun u o w4 hg => ((hg.block r (by simp [World.setCell]; have := lt_of_block HB2.out; omega) (fun e => HH.out.rt e.symm)).trans (Below.heap_alloc _ _ _ (by simp [World.setCell]; exact lt_of_block HB2.out))).trans (heap_setCell_here HB2.out u)); obtain ⟨⟨d0, d1, d2, d3, d4⟩, e1, e2, e3, e4⟩ := cells_of hb2; have hr2 := lt_of_block hb2; clear hb2 hw2))
  go_end0
  rw [HT.out] at hs4
  refine ⟨rfl, add_fin HH.out HW1.out hs2 hg2 ?_ hl2 hs4 hg4 ?_ hb4⟩
  · rcases ha2 with e | e
    · exact Or.inl e
    · right; simp at e; omega
  · rcases ha4 with e | e
    · exact Or.inl e
    · right; simp [World.setCell] at e; omega
end Go.Proofs.YtnaooocmggnojaaDoor
