/-
  millracelaw.QueueBands: it returns true for all rooms and all steps; nothing that was there before is otherwise. Conditions: the rooms and the steps lie in memory; errors.errorType holds its handle.
-/
import Derived.Test.YtpjhiioecigfhaaDoorSj
namespace Go.Proofs.YtpjhiioecigfhaaDoor
open Go.RowKit Go.Extern.Stop Go.Stop Go.Extern

theorem ptrB (b : Nat) (w : World) : (binOp .eql 39 (.pointer (some ⟨b, 0, none⟩)) (.pointer none)).run Tryd.prog w = .ok (.bool false) w := by kernel_rfl
theorem ptrBN (w : World) : (binOp .eql 39 (.pointer none) (.pointer none)).run Tryd.prog w = .ok (.bool true) w := by kernel_rfl
theorem seg_cellAt {w : World} {e : TypeId} {g o n cap : Nat} {xs : List Value} (h : Seg w e 1 (.slice (some ⟨g, o, none⟩) n cap) n xs) : ∀ j u, xs[j]? = some u → w.cell? ⟨g, o + j, none⟩ = some u := by
  rcases h.form with ⟨h1, _, _⟩ | ⟨b', off', cap', h1, _, _, _, hc⟩
  · simp at h1
  · simp only [Value.slice.injEq, Option.some.injEq, Addr.mk.injEq, and_true] at h1
    obtain ⟨⟨rfl, rfl⟩, _⟩ := h1
    exact hc
set_option maxRecDepth 20000 in
set_option maxHeartbeats 4000000 in
theorem bandsLaw_any (px : Option Addr) (m pcap : Nat) (f : Nat → Int) (x : Option Addr) (cap : Nat) (xs : List Stp) (w : World) (hp : IRow w px m f) (hpm : m ≤ maxLen) (hl : Lies w x (flt Stp.cs xs)) (hm : xs.length ≤ maxLen) (hL : Laid w) :
    Calls Tryd.prog 3 #[.slice px m pcap, .slice x xs.length cap] w fun e w' => e = .returned (.bool true) ∧ Below w.heap.size w w' := by
  have HP : Hid (IRow w px m f) := hp
  have HL : Hid (Lies w x (flt Stp.cs xs)) := hl
  have HLD : Hid (Laid w) := hL
  clear hl hL hp
  unfold maxLen at hm hpm
  obtain ⟨q, hq⟩ : ∃ q, xs.length = q := ⟨_, rfl⟩
  have HN : Hid (xs.length = q) := hq
  rw [hq] at hm ⊢
  clear hq
  have hp1 := ptrF
  have hp2 := ptrB
  have hp3 := ptrBN
  have h9 : ((9 : Int) == 0) = false := by decide
  by_cases hlen : 120 < q
  · go_enter Tryd.func3, Tryd.ntmps3
    go_wp2
    go_ret
    exact ⟨rfl, Below.refl _ _⟩
  by_cases hlen2 : 20 < m
  · go_enter Tryd.func3, Tryd.ntmps3
    go_wp2
    go_ret
    exact ⟨rfl, Below.refl _ _⟩
  have hq1 : q ≤ 120 := by omega
  have hm1 : m ≤ 20 := by omega
  clear hm hlen hpm hlen2
  obtain ⟨i0, hi, hz0, hz1, hz2⟩ := info_parts infoQueue
  obtain ⟨r0, ri, rz0, rz1, rz2⟩ := info_parts infoRQueue
  go_enter Tryd.func3, Tryd.ntmps3
  go_wp2
  go_loopw [5, 7] (fun v i wr => ∃ (k : Nat) (u : Value) (bs cs : Nat → Nat), k ≤ m ∧ i = .int .i64 k ∧ MadeT (psOf f) w k v wr u bs cs) (fun _ i _ => m - (intOf i).toNat)
  case atStart => exact ⟨0, .slice none 0 0, fun _ => 0, fun _ => 0, Nat.zero_le _, rfl, ⟨Seg.nil _ _ _, fun i hi => by omega, fun i j hi => by omega, fun i hi => by omega, fun b hb => by simp [Value.ownBlock] at hb, below_alloc_ (Below.refl _ _) _⟩, ⟨new_block _ _, Seg.nil _ _ _, fun i hi => by omega, fun i j hi => by omega, fun i hi => by omega, fun b hb => by simp [Value.ownBlock] at hb, Nat.le_refl _⟩, fun j hj => by
    rcases hj with e | ⟨i, hi, _⟩
    · simp [Value.ownBlock] at e
    · omega⟩
  case round =>
    obtain ⟨k, u, bs, cs, hk, rfl, hr⟩ := hrel
    have HR : Hid (MadeT (psOf f) w k u5 wr u bs cs) := hr
    clear hr
    by_cases hlt : k < m
    · obtain ⟨pb, poff, rfl, hpb, hpc⟩ : ∃ b off, px = some ⟨b, off, none⟩ ∧ b < w.heap.size ∧ ∀ i, i < m → w.cell? ⟨b, off + i, none⟩ = some (.int .i64 (f i)) := by
        rcases HP.out with h | h
        · omega
        · exact h
      have hck : wr.cell? ⟨pb, poff + k, none⟩ = some (.int .i64 (f k)) := by
        rw [World.cell?_of_block (w := w) (a := ⟨pb, poff + k, none⟩) (HR.out.p.below.block pb hpb)]
        exact hpc k hlt
      have hpk := psOf_le f k
      clear hpc
      go_wp2_with (first | (go_at_call 6; refine (newFifo_yes (psOf f k) 1000000 false _ (by omega) (by omega) (by decide) (by decide)).mono ?_; rintro e w2 ⟨rfl, hl2, hw2⟩; subst hw2) | (at_builtin; refine wpList_append_seg _ rfl (.tmp 49) (.tmp 52) 24 rfl 76 i0 _ 1 16 Tryd.underlying24 hi hz0 hz1 hz2 rfl (by decide) u5 k _ rfl (HR.out.p.row.below (below_alloc_ (below_alloc_ (Below.refl _ _) _) _)) _ 1 1 _ rfl rfl (news_of (new_block_ (by simp))) (by simp [Value.oneCell']) (by decide) (by unfold maxLen; omega) (by omega) _ rfl ?_; intro g goff gcap w4 hs4 hg4 ha4 hl4; obtain ⟨P4, Q4, S4⟩ := madeT_a HR.out hl2 rfl hg4 hs4 (fun b hb => by simp only [Value.ownBlock, Option.some.injEq] at hb; subst hb; rcases ha4 with h | h; exact Or.inl h; right; simp at h ⊢; omega); obtain ⟨c4, f4⟩ := cell1 Q4.blk; have hb4 := lt_of_block Q4.blk) | (at_builtin; refine wpList_append_seg _ rfl (.tmp 58) (.tmp 63) 26 rfl 86 r0 _ 1 16 Tryd.underlying26 ri rz0 rz1 rz2 rfl (by decide) u k _ rfl (Q4.row.below (below_alloc_ (below_alloc_ (Below.refl _ _) _) _)) _ 1 1 _ rfl rfl (news_of (new_block_ (by simp))) (by simp [Value.oneCell']) (by decide) (by unfold maxLen; omega) (by omega) _ rfl ?_; intro g' goff' gcap' w5 hs5 hg5 ha5 hl5; have hB5 := madeT_blk Q4 rfl hg5; obtain ⟨c5, f5⟩ := cell1 hB5; have hb5 := lt_of_block hB5))
      go_roundw
      case rel =>
        refine ⟨k + 1, _, _, _, by omega, by go_num, madeT_b P4 Q4 S4 rfl hg5 hs5 (fun b hb => ?_)⟩
        simp only [Value.ownBlock, Option.some.injEq] at hb
        subst hb
        rcases ha5 with h | h
        · exact Or.inl h
        · right; simp at h ⊢; omega
      case measure => simp [intOf]; omega
    · obtain rfl : k = m := by omega
      have hws := HR.out.p.below.size
      have HB4 : Hid (∀ W : World, Laid W → Calls Tryd.prog 8 #[.iface 43 (.int .i64 4), .int .i64 4] W fun e w' => e = .returned (.bool true) ∧ Below W.heap.size W w') := fun W hW => bare_no 4 W hW (by decide)
      have HB7 : Hid (∀ W : World, Laid W → Calls Tryd.prog 8 #[.iface 43 (.int .i64 7), .int .i64 7] W fun e w' => e = .returned (.bool true) ∧ Below W.heap.size W w') := fun W hW => bare_no 7 W hW (by decide)
      have HLW : Hid (Laid wr) := HLD.out.below HR.out.p.below
      by_cases h8 : k < 1 ∨ 8 < k
      · obtain ⟨ux, ucap, hu5⟩ : ∃ x cap, u5 = .slice x k cap := by
          rcases HR.out.p.row.form with ⟨h, h0, _⟩ | ⟨b, off, cap, h, _⟩
          · exact ⟨none, 0, by rw [h, h0]⟩
          · exact ⟨_, _, h⟩
        subst hu5
        have HNB := newBands_limit (x := ux) (cap := ucap) wr h8 (by omega)
        rcases h8 with h8 | h8
        all_goals
          go_wp2_with (first | (go_at_call 7; refine HNB.mono ?_; rintro e w2 ⟨rfl, hw2⟩; subst hw2) | (go_at_call 8; refine (HB4.out _ HLW.out).mono ?_; rintro e w3 ⟨rfl, hb3⟩))
          go_ret
          exact ⟨rfl, HR.out.p.below.trans (hb3.mono hws)⟩
      · obtain ⟨b, off, ocap, hu5, hoc, _, hbl, hbc⟩ := HR.out.p.row.some (by omega)
        subst hu5
        have hqr : QRowAt wr b off k (fun i => (30, .pointer (some ⟨bs i, 0, none⟩))) := fun i hi => hbc i _ (qcells_get hi)
        have HQR : Hid (QRowAt wr b off k (fun i => (30, .pointer (some ⟨bs i, 0, none⟩)))) := hqr
        have hk1 : 1 ≤ k := by omega
        have hk8 : k ≤ 8 := by omega
        clear hqr hbc h8
        go_wp2_with (go_at_call 7; fail)
        refine (newBands_yes _ HQR.out hk1 hk8 hbl).mono ?_
        rintro e w2 ⟨B, g, goff, gcap, rfl, hB2, hr2, hg2, hgB2, hb2⟩
        have HB2 : Hid (Below wr.heap.size wr w2) := hb2
        have hbl2 : b < w2.heap.size := Nat.lt_of_lt_of_le hbl hb2.size
        have HQ2 : Hid (QRowAt w2 b off k (fun i => (30, .pointer (some ⟨bs i, 0, none⟩)))) := fun i hi => by rw [World.cell?_of_block (w := wr) (a := ⟨b, off + i, none⟩) (hb2.block b hbl)]; exact HQR.out i hi
        have HBA : Hid (BAt (GQ (psOf f) bs) k B g goff gcap w2 (fun i k => k = bs i) (fun _ => ([] : List Hd))) := madeP_bands HR.out.p hb2 hB2 hr2 hg2 hgB2
        have HGN : Hid (wr.heap.size ≤ g ∧ wr.heap.size ≤ B) := ⟨hg2, by omega⟩
        clear hB2 hr2 hg2 hgB2 hb2 hbl
        obtain ⟨m, hm3⟩ : ∃ m : Nat, m = min k 3 := ⟨_, rfl⟩
        have hmk : m ≤ k ∧ m ≤ 3 ∧ 1 ≤ m := by omega
        have HEND : Hid (∀ W : World, Below w2.heap.size w2 W → Calls Tryd.prog 9 #[.iface 39 (.pointer (some ⟨B, 0, none⟩)), .iface 25 (.pointer (some ⟨w.heap.size, 0, none⟩)), .slice x q cap, .nilFunc] W fun e w' => e = .returned (.bool true) ∧ Below w.heap.size w w') := by
          intro W hW
          have hSm := GQ_small (psOf f) bs hk1 hk8 (fun i => (psOf_le f i).1)
          have hRs := HQ_small (psOf f) cs hk1 hk8 (fun i => (psOf_le f i).1)
          obtain ⟨ub, uo, ucap, hu, _, _, hubl, _⟩ := HR.out.q.row.some (by omega)
          subst hu
          have hw2 : Below wr.heap.size wr W := HB2.out.trans (hW.mono HB2.out.size)
          have hwW : Below w.heap.size w W := HR.out.p.below.trans (hw2.mono hws)
          have hBA := HBA.out
          have hRA := madeQ_bands HR.out.q
          have hqf := HR.out.q
          have hpf := HR.out.p
          have hsep := HR.out.sep
          have hgn := HGN.out
          have hbsl : ∀ i, i < k → bs i < wr.heap.size := fun i hi => (hpf.each i hi).lt
          have hcsl : ∀ i, i < k → cs i < wr.heap.size := fun i hi => (hqf.each i hi).lt
          have hwl := lt_of_block hqf.blk
          have hBl := lt_of_block hBA.blk
          have hP := played_any (BandsM (GQ (psOf f) bs) k B g goff gcap) (bandsM_fine hSm) (RBandsM (HQ (psOf f) cs) k w.heap.size ub uo ucap) (rbandsM_fine hRs) (fun s r => ∀ i, i < k → s i = r i) (bands_agree (GH_each (psOf f) bs cs hk1 hk8 (fun i => (psOf_le f i).1)) B g goff gcap w.heap.size ub uo ucap) (foot k B g (fun i j => j = bs i)) (foot k w.heap.size ub (fun i j => j = cs i)) (fun _ => ([] : List Hd)) (fun _ => ([] : List Hd)) x cap xs W (HL.out.below hwW) (by rw [HN.out]; omega)
            ⟨_, hBA.kept hSm.fine (fun j hj => hW.block j (by
              rcases hj with rfl | rfl | ⟨i, hi, rfl⟩
              · exact hBl
              · exact hBA.obl
              · have := hbsl i hi; have := HB2.out.size; omega)), fun _ => Iff.rfl⟩
            (fun i hi => ⟨Nat.le_refl _, by simp⟩)
            ⟨_, hRA.kept hRs.fine (fun j hj => hw2.block j (by
              rcases hj with rfl | rfl | ⟨i, hi, rfl⟩
              · exact hwl
              · exact hRA.obl
              · exact hcsl i hi)), fun _ => Iff.rfl⟩
            (fun i hi => ⟨Nat.le_refl _, by simp⟩)
            (fun j hf hg => by
              have hgl : j < wr.heap.size := by
                rcases hg with rfl | rfl | ⟨i, hi, rfl⟩
                · exact hwl
                · exact hRA.obl
                · exact hcsl i hi
              rcases hf with rfl | rfl | ⟨i, hi, rfl⟩
              · omega
              · omega
              · refine hsep (bs i) (Or.inr ⟨i, hi, rfl⟩) ?_
                rcases hg with h | h | ⟨i', hi', h⟩
                · exact Or.inl h
                · exact Or.inr (Or.inl (by rw [h]; rfl))
                · exact Or.inr (Or.inr ⟨i', hi', h⟩))
            (fun i hi => rfl)
          rw [HN.out] at hP
          refine hP.mono ?_
          rintro e w' ⟨rfl, ho⟩
          refine ⟨rfl, hwW.trans (ho.below hwW.size (fun j hj => ?_))⟩
          rcases hj with (rfl | rfl | ⟨i, hi, rfl⟩) | (rfl | rfl | ⟨i, hi, rfl⟩)
          · omega
          · omega
          · exact (hpf.new i hi).1
          · exact Nat.le_refl _
          · exact (hqf.own _ rfl).1
          · exact (hqf.new i hi).1
        rcases Nat.lt_or_ge 3 k with hk3 | hk3
        · obtain rfl : m = 3 := by omega
          clear hm3 hmk
          have hoc3 : 3 ≤ ocap := by omega
          go_wp2_with (first | (at_builtin; refine wpList_append_seg _ rfl (.tmp 93) (.tmp 98) 24 rfl 76 i0 _ 1 16 Tryd.underlying24 hi hz0 hz1 hz2 rfl (by decide) (.slice (some ⟨w2.heap.size, 0, none⟩) 0 0) 0 [] rfl (seg_empty1 (new_block_ rfl)) ⟨b, off, none⟩ 3 ocap (qcells 3 (fun i => (30, .pointer (some ⟨bs i, 0, none⟩)))) rfl (by simp [qcells]) (fun j u hj => by rw [Addr.add_lit, World.cell?_alloc_lt _ _ _ (by exact hbl2), (qcells_at hj).2]; exact HQ2.out j (by have := (qcells_at hj).1; omega)) (qcells_one 3 (fun i => (30, .pointer (some ⟨bs i, 0, none⟩)))) (by omega) (by unfold maxLen; omega) (by omega) _ rfl ?_; intro g5 o5 p5 w5 hs5 hg5 ha5 hl5; simp only [Nat.zero_add, List.nil_append] at hs5) | (at_builtin; refine wpList_append_seg _ rfl (.tmp 99) (.tmp 100) 24 rfl 76 i0 _ 1 16 Tryd.underlying24 hi hz0 hz1 hz2 rfl (by decide) (.slice (some ⟨g5, o5, none⟩) 3 p5) 3 (qcells 3 (fun i => (30, .pointer (some ⟨bs i, 0, none⟩)))) rfl (Seg.below hs5 (below_alloc_ (Below.refl _ _) _)) ⟨w5.heap.size, 0, none⟩ 1 1 [.nilIface] rfl rfl (news_of (new_block_ (by simp))) (by simp [Value.oneCell']) (by decide) (by unfold maxLen; omega) (by omega) _ rfl ?_; intro g6 o6 p6 w6 hs6 hg6 ha6 hl6) | (go_at_call 7; fail))
          have hb5 : Below w2.heap.size w2 w5 := below_grown_ (below_alloc_ (Below.refl _ _) _) hg5 (fun j e => by simp [Value.ownBlock] at e; omega)
          have hb6 : Below w2.heap.size w2 w6 := below_grown_ (below_alloc_ hb5 _) hg6 (fun j e => by
            simp only [Value.ownBlock, Option.some.injEq] at e
            subst e
            rcases ha5 with h | h
            · simp [Value.ownBlock] at h; omega
            · simp at h; omega)
          have hq6 : QRowAt w6 g6 o6 3 (fun i => (30, .pointer (some ⟨bs i, 0, none⟩))) := fun i hi => seg_cellAt hs6 i _ (by rw [List.getElem?_append_left (by simpa [qcells] using hi)]; exact qcells_get hi)
          have hn6 : w6.cell? ⟨g6, o6 + 3, none⟩ = some .nilIface := seg_cellAt hs6 3 _ (by rw [List.getElem?_append_right (by simp [qcells])]; simp [qcells])
          have HW6 : Hid (Below w2.heap.size w2 w6) := hb6
          have HLD6 : Hid (Laid w6) := HLW.out.below (HB2.out.trans (hb6.mono HB2.out.size))
          refine (newBands_missing (cap := p6) w6 hq6 hn6 (by omega)).mono ?_
          rintro e w7 ⟨rfl, hw7⟩
          subst hw7
          clear hb5 hb6 hq6 hn6 hs5 hg5 ha5 hl5 hs6 hg6 ha6 hl6
          go_wp2_with (go_at_call 8; fail)
          refine (HB7.out _ HLD6.out).mono ?_
          rintro e w8 ⟨rfl, hb8⟩
          go_wp2_with (go_at_call 9; fail)
          refine (HEND.out _ (HW6.out.trans (hb8.mono HW6.out.size))).mono ?_
          rintro e w9 ⟨rfl, hb9⟩
          go_wp2
          go_ret
          exact ⟨rfl, hb9⟩
        · obtain rfl : m = k := by omega
          clear hm3 hmk
          go_wp2_with (first | (at_builtin; refine wpList_append_seg _ rfl (.tmp 93) (.tmp 98) 24 rfl 76 i0 _ 1 16 Tryd.underlying24 hi hz0 hz1 hz2 rfl (by decide) (.slice (some ⟨w2.heap.size, 0, none⟩) 0 0) 0 [] rfl (seg_empty1 (new_block_ rfl)) ⟨b, off, none⟩ m ocap (qcells m (fun i => (30, .pointer (some ⟨bs i, 0, none⟩)))) rfl (by simp [qcells]) (fun j u hj => by rw [Addr.add_lit, World.cell?_alloc_lt _ _ _ (by exact hbl2), (qcells_at hj).2]; exact HQ2.out j (by have := (qcells_at hj).1; omega)) (qcells_one m (fun i => (30, .pointer (some ⟨bs i, 0, none⟩)))) (by omega) (by unfold maxLen; omega) (by omega) _ rfl ?_; intro g5 o5 p5 w5 hs5 hg5 ha5 hl5; simp only [Nat.zero_add, List.nil_append] at hs5) | (at_builtin; refine wpList_append_seg _ rfl (.tmp 99) (.tmp 100) 24 rfl 76 i0 _ 1 16 Tryd.underlying24 hi hz0 hz1 hz2 rfl (by decide) (.slice (some ⟨g5, o5, none⟩) m p5) m (qcells m (fun i => (30, .pointer (some ⟨bs i, 0, none⟩)))) rfl (Seg.below hs5 (below_alloc_ (Below.refl _ _) _)) ⟨w5.heap.size, 0, none⟩ 1 1 [.nilIface] rfl rfl (news_of (new_block_ (by simp))) (by simp [Value.oneCell']) (by decide) (by unfold maxLen; omega) (by omega) _ rfl ?_; intro g6 o6 p6 w6 hs6 hg6 ha6 hl6) | (go_at_call 7; fail))
          have hb5 : Below w2.heap.size w2 w5 := below_grown_ (below_alloc_ (Below.refl _ _) _) hg5 (fun j e => by simp [Value.ownBlock] at e; omega)
          have hb6 : Below w2.heap.size w2 w6 := below_grown_ (below_alloc_ hb5 _) hg6 (fun j e => by
            simp only [Value.ownBlock, Option.some.injEq] at e
            subst e
            rcases ha5 with h | h
            · simp [Value.ownBlock] at h; omega
            · simp at h; omega)
          have hq6 : QRowAt w6 g6 o6 m (fun i => (30, .pointer (some ⟨bs i, 0, none⟩))) := fun i hi => seg_cellAt hs6 i _ (by rw [List.getElem?_append_left (by simpa [qcells] using hi)]; exact qcells_get hi)
          have hn6 : w6.cell? ⟨g6, o6 + m, none⟩ = some .nilIface := seg_cellAt hs6 m _ (by rw [List.getElem?_append_right (by simp [qcells])]; simp [qcells])
          have HW6 : Hid (Below w2.heap.size w2 w6) := hb6
          have HLD6 : Hid (Laid w6) := HLW.out.below (HB2.out.trans (hb6.mono HB2.out.size))
          refine (newBands_missing (cap := p6) w6 hq6 hn6 (by omega)).mono ?_
          rintro e w7 ⟨rfl, hw7⟩
          subst hw7
          clear hb5 hb6 hq6 hn6 hs5 hg5 ha5 hl5 hs6 hg6 ha6 hl6
          go_wp2_with (go_at_call 8; fail)
          refine (HB7.out _ HLD6.out).mono ?_
          rintro e w8 ⟨rfl, hb8⟩
          go_wp2_with (go_at_call 9; fail)
          refine (HEND.out _ (HW6.out.trans (hb8.mono HW6.out.size))).mono ?_
          rintro e w9 ⟨rfl, hb9⟩
          go_wp2
          go_ret
          exact ⟨rfl, hb9⟩
end Go.Proofs.YtpjhiioecigfhaaDoor
