/-
  millraceref.Sorted: in new memory all pairs of a map, the most frequent first, of like ones by key; nothing that was there is otherwise. Conditions: block b is a map of ints.
-/
import Derived.Test.YtkmbnklfaaopaaaDoorSkS
namespace Go.Proofs.YtkmbnklfaaopaaaDoor
open Go.RowKit Go.Extern.Stop Go.Stop Go.Extern Go.Maps

theorem own_some {w : World} {B : Nat} {e : TypeId} {v : Value} {n : Nat} {xs : List Value} (h : w.ownsRow B e 2 v n xs) (hn : 0 < n) : ∃ g cap cur, v = .slice (some ⟨g, 0, none⟩) n cap ∧ B ≤ g ∧ w.heap[g]? = some (.cells cur e (0, 0)) ∧ n ≤ cap ∧ cap ≤ maxLen ∧ cur.size = cap * 2 ∧ cur.toList.take (n * 2) = xs := by
  rcases h.2 with ⟨_, h0⟩ | h
  · omega
  · exact h
theorem infoRPair : (Tryd.prog.info? 58).map (fun i => (i.zero, i.size, i.bytes)) = some (some (.agg #[.int .i64 0, .int .i64 0]), 2, 16) := by kernel_rfl
theorem sizeRPair : (Tryd.prog.info? 58).map (·.size) = some 2 := by kernel_rfl
theorem ranges_drewN {w : World} {P : Program} {k : TypeId} {R : Value → Option (DataW Unit × List MemPlace)} {b r n : Nat} {D : DataW Unit} {left : Lit → Bool} {cnt : Nat} (h : w.ranges P k R b r n D left cnt) (q : Nat) : (w.drewN q).ranges P k R b r n D left cnt := by
  obtain ⟨es, clock, since, seen, c0, h1, h2, h3, h4, h5, h6⟩ := h
  exact ⟨es, clock, since, seen, c0, h1, h2, h3, h4, h5, h6⟩
/-- The copy. -/
theorem ins_copy {w : World} {g cap : Nat} {cur : Array Value} {N : List (Int × Int)} {a : Nat} (ha : a ≤ N.length) (hh : w.heap[g]? = some (.cells cur 58 (0, 0))) (hn : N.length + 1 ≤ cap) (hs : cur.size = cap * 2) (ht : cur.toList.take ((N.length + 1) * 2) = flatP N ++ [.int .i64 0, .int .i64 0]) :
    ∃ cur5 : Array Value, (Builtin.copy_ #[25, 25] 3 #[.slice (if cap = a + 1 then some ⟨g, 0, none⟩ else some ⟨g, (a + 1) * 2, none⟩) (N.length - a) (cap - (a + 1)), .slice (some ⟨g, a * 2, none⟩) (N.length + 1 - a) (cap - a)]).run Tryd.prog w.drew = .ok (goInt ((N.length - a : Nat) : Int)) (w.drew.setRow g cur5) ∧ cur5.toList = cur.toList.take ((a + 1) * 2) ++ flatP (N.drop a) ++ cur.toList.drop ((a + 1) * 2 + (flatP (N.drop a)).length) := by
  have hl : (flatP (N.drop a)).length = (N.length - a) * 2 := by rw [flatP_len]; simp
  have hcur : ∀ j, j < (N.length + 1) * 2 → cur[j]? = (flatP N ++ [Value.int .i64 0, Value.int .i64 0])[j]? := fun j hj => by
    have : cur.toList[j]? = (flatP N ++ [Value.int .i64 0, Value.int .i64 0])[j]? := by rw [← ht, List.getElem?_take, if_pos hj]
    simpa using this
  by_cases e : a = N.length
  · subst e
    have hmin : Nat.min (N.length + 1 - N.length) (N.length - N.length) = 0 := by show min _ _ = _; omega
    have hcp : ∀ o, o ≤ cur.size → (Builtin.copy_ #[25, 25] 3 #[.slice (some ⟨g, o, none⟩) (N.length - N.length) (cap - (N.length + 1)), .slice (some ⟨g, N.length * 2, none⟩) (N.length + 1 - N.length) (cap - N.length)]).run Tryd.prog w.drew = .ok (goInt ((N.length - N.length : Nat) : Int)) (w.drew.setRow g cur) := fun o ho => by
      have := run_copy_row2 (P := Tryd.prog) w.drew 25 25 3 58 g o (N.length - N.length) (cap - (N.length + 1)) ⟨g, N.length * 2, none⟩ (N.length + 1 - N.length) (cap - N.length) cur 58 [] Tryd.underlying25 sizeRPair hh (by rw [hmin]; rfl) (fun j v hj => by simp at hj) (by simpa using ho) (by simp)
      rw [hmin] at this
      rw [this, Nat.sub_self]
      simp
    refine ⟨cur, ?_, ?_⟩
    · by_cases hc : cap = N.length + 1
      · rw [if_pos hc]; exact hcp 0 (by omega)
      · rw [if_neg hc]; exact hcp _ (by omega)
    · rw [List.drop_eq_nil_of_le (Nat.le_refl _)]
      show _ = _ ++ [] ++ cur.toList.drop ((N.length + 1) * 2)
      rw [List.append_nil, List.take_append_drop]
  · have hne : ¬ cap = a + 1 := by omega
    rw [if_neg hne]
    have hmin : Nat.min (N.length + 1 - a) (N.length - a) = N.length - a := by show min _ _ = _; omega
    have := run_copy_row2 (P := Tryd.prog) w.drew 25 25 3 58 g ((a + 1) * 2) (N.length - a) (cap - (a + 1)) ⟨g, a * 2, none⟩ (N.length + 1 - a) (cap - a) cur 58 (flatP (N.drop a)) Tryd.underlying25 sizeRPair hh (by rw [hl, hmin]) (fun j v hj => by
      have hjl := (List.getElem?_eq_some_iff.1 hj).1
      rw [hl] at hjl
      have hadd : (⟨g, a * 2, none⟩ : Addr).add j = ⟨g, a * 2 + j, none⟩ := by unfold Addr.add; split <;> simp_all
      rw [hadd]
      show w.cell? _ = _
      simp only [World.cell?, hh]
      rw [hcur _ (by omega), List.getElem?_append_left (by rw [flatP_len]; omega)]
      rw [← flatP_drop, List.getElem?_drop] at hj
      rw [hj]
      rfl) (by rw [hl]; omega) (flatP_one _)
    rw [hmin] at this
    exact ⟨_, this, by rfl⟩
/-- Behind the copy and the store. -/
theorem ins_own {w : World} {B g cap : Nat} {cur cur5 : Array Value} {N : List (Int × Int)} {a : Nat} (x c : Int) (ha : a ≤ N.length) (hB : B ≤ g) (hh : w.heap[g]? = some (.cells cur 58 (0, 0))) (hn : N.length + 1 ≤ cap) (hx : cap ≤ maxLen) (hs : cur.size = cap * 2) (ht : cur.toList.take ((N.length + 1) * 2) = flatP N ++ [.int .i64 0, .int .i64 0])
    (h5 : cur5.toList = cur.toList.take ((a + 1) * 2) ++ flatP (N.drop a) ++ cur.toList.drop ((a + 1) * 2 + (flatP (N.drop a)).length)) :
    (((w.drew.setRow g cur5).setCell ⟨g, a * 2, none⟩ (.int .i64 x)).setCell ⟨g, a * 2 + 1, none⟩ (.int .i64 c)).ownsRow B 58 2 (.slice (some ⟨g, 0, none⟩) (N.length + 1) cap) (insA N a (x, c)).length (flatP (insA N a (x, c))) ∧ w.grownBy (((w.drew.setRow g cur5).setCell ⟨g, a * 2, none⟩ (.int .i64 x)).setCell ⟨g, a * 2 + 1, none⟩ (.int .i64 c)) (some g) ∧ (((w.drew.setRow g cur5).setCell ⟨g, a * 2, none⟩ (.int .i64 x)).setCell ⟨g, a * 2 + 1, none⟩ (.int .i64 c)).heap.size = w.heap.size := by
  have h0 : w.drew.heap[g]? = some (.cells cur 58 (0, 0)) := hh
  have hl : (flatP (N.drop a)).length = (N.length - a) * 2 := by rw [flatP_len]; simp
  have s5 : cur5.size = cap * 2 := by
    rw [← Array.length_toList, h5]
    simp only [List.length_append, List.length_take, List.length_drop, hl, Array.length_toList, hs]
    omega
  have e1 := setCell_eq_setRow (w.drew.setRow g cur5) g (a * 2) cur5 58 (0, 0) (.int .i64 x) (setRow_heap _ _ _ _ _ _ h0)
  rw [e1, setRow_setRow]
  have e2 := setCell_eq_setRow (w.drew.setRow g (cur5.setIfInBounds (a * 2) (.int .i64 x))) g (a * 2 + 1) (cur5.setIfInBounds (a * 2) (.int .i64 x)) 58 (0, 0) (.int .i64 c) (setRow_heap _ _ _ _ _ _ h0)
  rw [e2, setRow_setRow]
  have hblk := setRow_heap w.drew g cur ((cur5.setIfInBounds (a * 2) (.int .i64 x)).setIfInBounds (a * 2 + 1) (.int .i64 c)) 58 (0, 0) h0
  refine ⟨?_, ⟨rfl, rfl, rfl, by simp [World.setRow], fun k hk hne => ?_⟩, by simp [World.setRow]⟩
  · rw [ins_len]
    refine ⟨by rw [flatP_len, ins_len], Or.inr ⟨g, cap, _, rfl, hB, hblk, hn, hx, by simp [s5], ?_⟩⟩
    have := ins_cells (cur := cur.toList) x c ha ht
    rw [← h5] at this
    simpa using this
  · show (w.heap.modify g _)[k]? = _
    rw [Array.getElem?_modify, if_neg (fun e => hne (by rw [e]))]
set_option maxRecDepth 20000 in
set_option maxHeartbeats 4000000 in
theorem sorted_any (b : Nat) (L : List (Int × Int)) (w : World) (h : MpI w b L) (hL : L.length ≤ 100000) :
    Calls Tryd.prog 11 #[.map (some b)] w fun e w' => (∃ x cap M, e = .returned (.slice x M.length cap) ∧ M.Perm L ∧ M.Pairwise PLt ∧ PrR w' x M) ∧ Below w.heap.size w w' := by
  have ha := h.ap
  have hbl := h.lt
  obtain ⟨l, hown, hp⟩ := h
  have HA : Hid (Ap L) := ha
  have HP : Hid (l.Perm (L.map enP)) := hp
  have HBL : Hid (b < w.heap.size) := hbl
  obtain ⟨i0, hi, hz0, hz1, hz2⟩ := info_parts infoRPair
  clear ha hp hbl
  go_enter Tryd.func11, Tryd.ntmps11
  go_wp2_with (first
    | (at_range; refine wpList_range_own _ rfl _ 23 rfl 3 3 keyI Tryd.underlying23 _ b _ _ rfl hown ?_; intro w0 hrg0 hg0 hs0)
    | go_in)
  go_frame
  go_loopw [3, 4] (fun o _ wr => ∃ (left : Lit → Bool) (cnt : Nat) (N : List (Int × Int)), wr.ranges Tryd.prog 3 (plainElem Tryd.prog 3) b w.heap.size L.length (.map l) left cnt ∧ wr.ownsRow (w.heap.size + 1) 58 2 o N.length (flatP N) ∧ (N.Perm (L.filter fun p => !left (.int .i64 p.1)) ∧ N.Pairwise PLt) ∧ Below w.heap.size w wr)
    (fun _ _ wr => wr.rangeLeft b w.heap.size)
  case atStart =>
    refine ⟨_, _, [], hrg0, World.ownsRow_nil _ _ _ _, ⟨?_, List.Pairwise.nil⟩, ⟨hg0.os, hg0.tape, hg0.output, hg0.size, fun i hi => hg0.block i hi (by simp)⟩⟩
    rw [List.filter_eq_nil_iff.2]
    intro p hpm
    have : Maps.has (.map l : DataW Unit) (.int .i64 p.1) = true := List.any_eq_true.2 ⟨enP p, HP.out.symm.subset (List.mem_map.2 ⟨p, hpm, rfl⟩), WideAt.sameKey_self (isKeyJ p.1)⟩
    simp [this]
  case round =>
    obtain ⟨left, cnt, N, hrg, hor, ⟨hN, hNs⟩, hbel⟩ := hrel
    have HNS0 : Hid (N.Pairwise PLt) := hNs
    clear hNs
    have HN : Hid (N.Perm (L.filter fun p => !left (.int .i64 p.1))) := hN
    have HO : Hid (wr.ownsRow (w.heap.size + 1) 58 2 u3 N.length (flatP N)) := hor
    have HB : Hid (Below w.heap.size w wr) := hbel
    have HR : Hid (wr.ranges Tryd.prog 3 (plainElem Tryd.prog 3) b w.heap.size L.length (.map l) left cnt) := hrg
    clear hN hor hbel
    go_wp2_with (first
      | (at_next; refine wpList_next_ranges_ii _ rfl _ rfl 3 3 .i64 .i64 keyI Tryd.underlying3 Tryd.underlying3 b w.heap.size L.length _ _ _ rfl hrg ?_ ?_)
      | go_in)
    · intro _ hl0
      have hNL : N.Perm L := by
        have := HN.out
        rw [List.filter_eq_self.2 (fun p _ => by simp [hl0])] at this
        exact this
      have HNL : Hid (N.Perm L) := hNL
      clear hNL hrg HR HN hl0
      obtain ⟨x', cap', rfl, _, hpr⟩ := own_pr HO.out
      have HPR : Hid (PrR wr x' N) := hpr
      clear hpr
      go_wp2
      go_ret
      exact ⟨⟨x', cap', N, rfl, HNL.out, HNS0.out, HPR.out⟩, HB.out⟩
    · intro x c w1 cnt1 hwx hwc hlx hat hrg1 hlt hg1 hs1 hen
      have hmL : (x, c) ∈ L := by
        have hl := look_of (pw_of hrg1.owns) HP.out x
        rw [hat] at hl
        have hc : c = vl L x := by simpa using hl
        rcases vl_cases L x with ⟨v, hm, hv⟩ | ⟨hno, _⟩
        · rw [hc, hv]; exact hm
        · exfalso
          have h1 := hat .nil
          rw [WideAt.atKey_none] at h1
          · cases h1
          · intro p hp e
            obtain ⟨q, hq, rfl⟩ := List.mem_map.1 (HP.out.subset hp)
            exact hno q hq (by simpa [enP] using e)
      have HNS : Hid ((N ++ [(x, c)]).Perm (L.filter fun p => !(left (.int .i64 p.1) && !(Lit.int .i64 p.1).sameKey (.int .i64 x)))) := by
        show List.Perm _ _
        simp only [sameKey_beq]
        exact filter_step (lf := fun z => left (.int .i64 z)) HA.out hlx hmL HN.out
      have hlen : N.length ≤ 100000 := by
        have h1 := HN.out.length_eq
        have h2 := List.length_filter_le (fun p : Int × Int => !left (.int .i64 p.1)) L
        omega
      have HO1 : Hid (w1.ownsRow (w.heap.size + 1) 58 2 u3 N.length (flatP N)) := HO.out.kept hg1 (by
        cases hv : u3.ownBlock with
        | none => exact Or.inl rfl
        | some k => exact Or.inr (fun e => by
            cases e
            have := (HO.out.lt _ hv).1
            omega))
      have HB1 : Hid (Below w.heap.size w w1) := HB.out.grown hg1 HB.out.size (fun j e => by cases e; exact Nat.le_refl _)
      have HRG1 : Hid (w1.ranges Tryd.prog 3 (plainElem Tryd.prog 3) b w.heap.size L.length (.map l) (fun z => left z && !z.sameKey (.int .i64 x)) cnt1) := hrg1
      have HLE : Hid (wr.rangeLeft b w.heap.size = cnt) := hrg.left_eq
      have q1 : N.length + 1 ≤ maxLen := by unfold maxLen; omega
      have q2 : (N.length + 1) * 16 ≤ 140737488355328 := by omega
      have q3 : ∀ o, w.heap.size + 1 ≤ (w1.alloc o).heap.size := fun o => by simp; have := HB1.out.size; omega
      have HN0 : Hid (N.Perm (L.filter fun p => !left (.int .i64 p.1))) := HN.out
      clear hrg hrg1 hat hg1 hs1 HR HN HO HB hmL
      obtain ⟨ox, ocap, rfl, hocap, hpr⟩ := own_pr HO1.out
      have HPR : Hid (PrR w1 ox N) := hpr
      have HNE : Hid (∀ q ∈ N, q.1 ≠ x) := fun q hq e => by
        have h1 := (List.mem_filter.1 (HN0.out.subset hq)).2
        rw [e, hlx] at h1
        simp at h1
      clear hpr
      go_wp2
      go_loopw [6] (fun i wx => ∃ a : Nat, a ≤ N.length ∧ i = .int .i64 a ∧ Hid (∀ i q, a ≤ i → N[i]? = some q → PLt (x, c) q) ∧ ∃ q, wx = w1.drewN q) (fun i _ => (intOf i).toNat)
      case atStart => exact ⟨N.length, Nat.le_refl _, rfl, fun i q hi hq => by have := (List.getElem?_eq_some_iff.1 hq).1; omega, 0, rfl⟩
      case round =>
        obtain ⟨a, ha, rfl, HLT, q, rfl⟩ := hrel
        by_cases ha0 : (0 : Int) < (a : Int)
        · obtain ⟨p, hp⟩ : ∃ p, N[a - 1]? = some p := ⟨_, List.getElem?_eq_getElem (by omega)⟩
          obtain ⟨b', off, rfl, e0, e1⟩ := HPR.out.at hp
          obtain ⟨a', rfl⟩ : ∃ a', a = a' + 1 := ⟨a - 1, by omega⟩
          rw [Nat.add_sub_cancel] at hp e0 e1
          have ew : IntKind.i64.wrap (((a' + 1 : Nat) : Int) - 1) = (a' : Int) := by rw [IntKind.wrap_i64]; omega
          by_cases hpl : PLt (x, c) p
          · have HLT' : Hid (∀ i q, a' ≤ i → N[i]? = some q → PLt (x, c) q) := fun i q hi hq => by
              by_cases e : i = a'
              · subst e; rw [hp] at hq; cases hq; exact hpl
              · exact HLT.out i q (by omega) hq
            have h1 : c < p.2 ∨ p.2 = c ∨ p.2 < c := by omega
            rcases h1 with h1 | h1 | h1
            · exfalso; unfold PLt at hpl; dsimp only at hpl; omega
            · have h2 : x < p.1 := by unfold PLt at hpl; dsimp only at hpl; omega
              have g1 : ¬ p.2 < c := by omega
              have g2 : (p.2 == c) = true := by simpa using h1
              clear hpl h1
              go_wp2
              go_roundw
              case rel => exact ⟨a', by omega, rfl, HLT', _, rfl⟩
              case measure => simp [intOf]
            · clear hpl
              go_wp2
              go_roundw
              case rel => exact ⟨a', by omega, rfl, HLT', _, rfl⟩
              case measure => simp [intOf]
          · have h1 : c < p.2 ∨ (p.2 = c ∧ ¬ x < p.1) := by unfold PLt at hpl; dsimp only at hpl; omega
            have HPL : Hid (¬ PLt (x, c) p) := hpl
            have HPP : Hid (N[a']? = some p) := hp
            clear hpl
            obtain ⟨a, haa⟩ : ∃ a, a = a' + 1 := ⟨_, rfl⟩
            have HPA : Hid (N[a - 1]? = some p) := by show N[a - 1]? = some p; rw [haa, Nat.add_sub_cancel]; exact hp
            have HLT2 : Hid (∀ i q, a ≤ i → N[i]? = some q → PLt (x, c) q) := by rw [haa]; exact HLT
            have ew2 : IntKind.i64.wrap ((a : Int) - 1) = (a' : Int) := by rw [haa]; exact ew
            rw [← haa] at ha ha0 ⊢
            have HAA : Hid (a = a' + 1) := haa
            clear haa ew HLT hp HPP
            have ha1 : a' < N.length := by have := HAA.out; omega
            rcases h1 with h1 | ⟨h1, h2⟩
            · have g1 : ¬ p.2 < c := by omega
              have g2 : (p.2 == c) = false := by simp; omega
              clear h1
              have HST : Hid (∀ q, 0 < a → N[a - 1]? = some q → ¬ PLt (x, c) q) := fun q _ hq => by rw [HPA.out] at hq; cases hq; exact HPL.out
              go_wp2_with (at_builtin; refine wpList_append_own _ rfl _ _ 25 rfl (w.heap.size + 1) 58 i0 (.agg #[.int .i64 0, .int .i64 0]) 2 16 Tryd.underlying25 hi hz0 hz1 hz2 rfl (by decide) _ _ _ rfl (World.ownsRow.alloc (w := w1.drewN q) HO1.out _) ⟨w1.heap.size, 0, none⟩ 1 1 [.int .i64 0, .int .i64 0] rfl rfl (cell_new2 (w1.drewN q) _ _ _) (by simp [Value.oneCell']) q1 q2 (q3 _) ?_; intro v' w4 hown4 hgrow4 _; obtain ⟨g, cap4, cur, rfl, hgB, hh4, hn4, hx4, hs4, ht4⟩ := own_some hown4 (by omega))
              have eA : IntKind.i64.wrap ((a : Int) + 1) = ((a + 1 : Nat) : Int) := by rw [IntKind.wrap_i64]; omega
              have l0 : (0 : Int) ≤ ((a + 1 : Nat) : Int) := by omega
              have l1 : ((a + 1 : Nat) : Int) ≤ ((N.length + 1 : Nat) : Int) := by omega
              have l2 : (0 : Int) ≤ (a : Int) := by omega
              have l3 : (a : Int) ≤ ((N.length + 1 : Nat) : Int) := by omega
              obtain ⟨cur5, hcp, h5⟩ := ins_copy ha hh4 hn4 hs4 ht4
              obtain ⟨hO, hG, hZ⟩ := ins_own x c ha hgB hh4 hn4 hx4 hs4 ht4 h5
              have HOO : Hid ((((w4.drew.setRow g cur5).setCell ⟨g, a * 2, none⟩ (.int .i64 x)).setCell ⟨g, a * 2 + 1, none⟩ (.int .i64 c)).ownsRow (w.heap.size + 1) 58 2 (.slice (some ⟨g, 0, none⟩) (N.length + 1) cap4) (insA N a (x, c)).length (flatP (insA N a (x, c)))) := hO
              have HGG : Hid (w4.grownBy (((w4.drew.setRow g cur5).setCell ⟨g, a * 2, none⟩ (.int .i64 x)).setCell ⟨g, a * 2 + 1, none⟩ (.int .i64 c)) (some g)) := hG
              have HGB : Hid (w.heap.size + 1 ≤ g) := hgB
              have hb5 := setRow_heap w4.drew g cur cur5 58 (0, 0) hh4
              have s5 : cur5.size = cap4 * 2 := by
                rw [← Array.length_toList, h5]
                simp only [List.length_append, List.length_take, List.length_drop, flatP_len, Array.length_toList, hs4]
                omega
              have y0 : ∃ u, (w4.drew.setRow g cur5).cell? ⟨g, a * 2, none⟩ = some u := by
                obtain ⟨u, hu⟩ : ∃ u, cur5[a * 2]? = some u := ⟨_, Array.getElem?_eq_getElem (by omega)⟩
                exact ⟨u, by simp [World.cell?, hb5, hu]⟩
              have y1 : ∃ u, (w4.drew.setRow g cur5).cell? ⟨g, a * 2 + 1, none⟩ = some u := by
                obtain ⟨u, hu⟩ : ∃ u, cur5[a * 2 + 1]? = some u := ⟨_, Array.getElem?_eq_getElem (by omega)⟩
                exact ⟨u, by simp [World.cell?, hb5, hu]⟩
              have z0 : (w4.drew.setRow g cur5).frozen? ⟨g, a * 2, none⟩ = false := by simp [World.frozen?, hb5]
              have z1 : (w4.drew.setRow g cur5).frozen? ⟨g, a * 2 + 1, none⟩ = false := by simp [World.frozen?, hb5]
              obtain ⟨u0, y0⟩ := y0
              obtain ⟨u1, y1⟩ := y1
              clear hO hG hZ hb5 s5 h5 hh4 ht4 hs4 hgB
              have HGW : Hid (((w1.drewN q).alloc (.cells #[.int .i64 0, .int .i64 0] 58)).grownBy w4 (Value.slice (some ⟨b', off, none⟩) N.length ocap).ownBlock) := hgrow4
              clear hgrow4 hown4
              have hne : ∀ k, k < w.heap.size + 1 → some k ≠ (Value.slice (some ⟨b', off, none⟩) N.length ocap).ownBlock := fun k hk e => by
                have := (HO1.out.lt _ e.symm).1
                omega
              have hneg : ∀ k, k < w.heap.size + 1 → some k ≠ some g := fun k hk e => by
                have := HGB.out
                cases e
                omega
              have HRQ : ((w1.drewN q).alloc (.cells #[.int .i64 0, .int .i64 0] 58)).ranges Tryd.prog 3 (plainElem Tryd.prog 3) b w.heap.size L.length (.map l) (fun z => left z && !z.sameKey (.int .i64 x)) cnt1 := World.ranges.alloc (ranges_drewN HRG1.out q) _
              have hrg4 := (HRQ.kept HGW.out (hne b (by have := HBL.out; omega)) (hne _ (by omega))).kept HGG.out (hneg b (by have := HBL.out; omega)) (hneg _ (by omega))
              have HBQ : Below w.heap.size w ((w1.drewN q).alloc (.cells #[.int .i64 0, .int .i64 0] 58)) := (below_drewN' HB1.out q).alloc HB1.out.size _
              have HB4 : Below w.heap.size w w4 := HBQ.grown HGW.out HBQ.size (fun j e => by have := (HO1.out.lt j e).1; omega)
              have HBE : Hid (Below w.heap.size w (((w4.drew.setRow g cur5).setCell ⟨g, a * 2, none⟩ (.int .i64 x)).setCell ⟨g, a * 2 + 1, none⟩ (.int .i64 c))) := HB4.grown HGG.out HB4.size (fun j e => by cases e; have := HGB.out; omega)
              have HRG4 : Hid ((((w4.drew.setRow g cur5).setCell ⟨g, a * 2, none⟩ (.int .i64 x)).setCell ⟨g, a * 2 + 1, none⟩ (.int .i64 c)).ranges Tryd.prog 3 (plainElem Tryd.prog 3) b w.heap.size L.length (.map l) (fun z => left z && !z.sameKey (.int .i64 x)) cnt1) := hrg4
              clear hrg4 HRQ HBQ HB4
              go_region
              clear hcp
              generalize w4.drew.setRow g cur5 = w5 at *
              go_wp2
              have hrg4 := HRG4.out
              go_roundw
              case rel =>
                refine ⟨_, cnt1, insA N a (x, c), hrg4, HOO.out, ⟨(ins_perm N a (x, c)).trans HNS.out, ins_sorted HNS0.out HNE.out HLT2.out HST.out ha⟩, ?_⟩
                exact HBE.out
              case measure => rw [hrg4.left_eq, HLE.out]; omega
            · have g1 : ¬ p.2 < c := by omega
              have g2 : (p.2 == c) = true := by simpa using h1
              clear h1
              have HST : Hid (∀ q, 0 < a → N[a - 1]? = some q → ¬ PLt (x, c) q) := fun q _ hq => by rw [HPA.out] at hq; cases hq; exact HPL.out
              go_wp2_with (at_builtin; refine wpList_append_own _ rfl _ _ 25 rfl (w.heap.size + 1) 58 i0 (.agg #[.int .i64 0, .int .i64 0]) 2 16 Tryd.underlying25 hi hz0 hz1 hz2 rfl (by decide) _ _ _ rfl (World.ownsRow.alloc (w := w1.drewN q) HO1.out _) ⟨w1.heap.size, 0, none⟩ 1 1 [.int .i64 0, .int .i64 0] rfl rfl (cell_new2 (w1.drewN q) _ _ _) (by simp [Value.oneCell']) q1 q2 (q3 _) ?_; intro v' w4 hown4 hgrow4 _; obtain ⟨g, cap4, cur, rfl, hgB, hh4, hn4, hx4, hs4, ht4⟩ := own_some hown4 (by omega))
              have eA : IntKind.i64.wrap ((a : Int) + 1) = ((a + 1 : Nat) : Int) := by rw [IntKind.wrap_i64]; omega
              have l0 : (0 : Int) ≤ ((a + 1 : Nat) : Int) := by omega
              have l1 : ((a + 1 : Nat) : Int) ≤ ((N.length + 1 : Nat) : Int) := by omega
              have l2 : (0 : Int) ≤ (a : Int) := by omega
              have l3 : (a : Int) ≤ ((N.length + 1 : Nat) : Int) := by omega
              obtain ⟨cur5, hcp, h5⟩ := ins_copy ha hh4 hn4 hs4 ht4
              obtain ⟨hO, hG, hZ⟩ := ins_own x c ha hgB hh4 hn4 hx4 hs4 ht4 h5
              have HOO : Hid ((((w4.drew.setRow g cur5).setCell ⟨g, a * 2, none⟩ (.int .i64 x)).setCell ⟨g, a * 2 + 1, none⟩ (.int .i64 c)).ownsRow (w.heap.size + 1) 58 2 (.slice (some ⟨g, 0, none⟩) (N.length + 1) cap4) (insA N a (x, c)).length (flatP (insA N a (x, c)))) := hO
              have HGG : Hid (w4.grownBy (((w4.drew.setRow g cur5).setCell ⟨g, a * 2, none⟩ (.int .i64 x)).setCell ⟨g, a * 2 + 1, none⟩ (.int .i64 c)) (some g)) := hG
              have HGB : Hid (w.heap.size + 1 ≤ g) := hgB
              have hb5 := setRow_heap w4.drew g cur cur5 58 (0, 0) hh4
              have s5 : cur5.size = cap4 * 2 := by
                rw [← Array.length_toList, h5]
                simp only [List.length_append, List.length_take, List.length_drop, flatP_len, Array.length_toList, hs4]
                omega
              have y0 : ∃ u, (w4.drew.setRow g cur5).cell? ⟨g, a * 2, none⟩ = some u := by
                obtain ⟨u, hu⟩ : ∃ u, cur5[a * 2]? = some u := ⟨_, Array.getElem?_eq_getElem (by omega)⟩
                exact ⟨u, by simp [World.cell?, hb5, hu]⟩
              have y1 : ∃ u, (w4.drew.setRow g cur5).cell? ⟨g, a * 2 + 1, none⟩ = some u := by
                obtain ⟨u, hu⟩ : ∃ u, cur5[a * 2 + 1]? = some u := ⟨_, Array.getElem?_eq_getElem (by omega)⟩
                exact ⟨u, by simp [World.cell?, hb5, hu]⟩
              have z0 : (w4.drew.setRow g cur5).frozen? ⟨g, a * 2, none⟩ = false := by simp [World.frozen?, hb5]
              have z1 : (w4.drew.setRow g cur5).frozen? ⟨g, a * 2 + 1, none⟩ = false := by simp [World.frozen?, hb5]
              obtain ⟨u0, y0⟩ := y0
              obtain ⟨u1, y1⟩ := y1
              clear hO hG hZ hb5 s5 h5 hh4 ht4 hs4 hgB
              have HGW : Hid (((w1.drewN q).alloc (.cells #[.int .i64 0, .int .i64 0] 58)).grownBy w4 (Value.slice (some ⟨b', off, none⟩) N.length ocap).ownBlock) := hgrow4
              clear hgrow4 hown4
              have hne : ∀ k, k < w.heap.size + 1 → some k ≠ (Value.slice (some ⟨b', off, none⟩) N.length ocap).ownBlock := fun k hk e => by
                have := (HO1.out.lt _ e.symm).1
                omega
              have hneg : ∀ k, k < w.heap.size + 1 → some k ≠ some g := fun k hk e => by
                have := HGB.out
                cases e
                omega
              have HRQ : ((w1.drewN q).alloc (.cells #[.int .i64 0, .int .i64 0] 58)).ranges Tryd.prog 3 (plainElem Tryd.prog 3) b w.heap.size L.length (.map l) (fun z => left z && !z.sameKey (.int .i64 x)) cnt1 := World.ranges.alloc (ranges_drewN HRG1.out q) _
              have hrg4 := (HRQ.kept HGW.out (hne b (by have := HBL.out; omega)) (hne _ (by omega))).kept HGG.out (hneg b (by have := HBL.out; omega)) (hneg _ (by omega))
              have HBQ : Below w.heap.size w ((w1.drewN q).alloc (.cells #[.int .i64 0, .int .i64 0] 58)) := (below_drewN' HB1.out q).alloc HB1.out.size _
              have HB4 : Below w.heap.size w w4 := HBQ.grown HGW.out HBQ.size (fun j e => by have := (HO1.out.lt j e).1; omega)
              have HBE : Hid (Below w.heap.size w (((w4.drew.setRow g cur5).setCell ⟨g, a * 2, none⟩ (.int .i64 x)).setCell ⟨g, a * 2 + 1, none⟩ (.int .i64 c))) := HB4.grown HGG.out HB4.size (fun j e => by cases e; have := HGB.out; omega)
              have HRG4 : Hid ((((w4.drew.setRow g cur5).setCell ⟨g, a * 2, none⟩ (.int .i64 x)).setCell ⟨g, a * 2 + 1, none⟩ (.int .i64 c)).ranges Tryd.prog 3 (plainElem Tryd.prog 3) b w.heap.size L.length (.map l) (fun z => left z && !z.sameKey (.int .i64 x)) cnt1) := hrg4
              clear hrg4 HRQ HBQ HB4
              go_region
              clear hcp
              generalize w4.drew.setRow g cur5 = w5 at *
              go_wp2
              have hrg4 := HRG4.out
              go_roundw
              case rel =>
                refine ⟨_, cnt1, insA N a (x, c), hrg4, HOO.out, ⟨(ins_perm N a (x, c)).trans HNS.out, ins_sorted HNS0.out HNE.out HLT2.out HST.out ha⟩, ?_⟩
                exact HBE.out
              case measure => rw [hrg4.left_eq, HLE.out]; omega
        · have ha00 : a = 0 := by omega
          have HA00 : Hid (a = 0) := ha00
          clear ha00
          have HST : Hid (∀ q, 0 < a → N[a - 1]? = some q → ¬ PLt (x, c) q) := fun q h _ => by have := HA00.out; omega
          go_wp2_with (at_builtin; refine wpList_append_own _ rfl _ _ 25 rfl (w.heap.size + 1) 58 i0 (.agg #[.int .i64 0, .int .i64 0]) 2 16 Tryd.underlying25 hi hz0 hz1 hz2 rfl (by decide) _ _ _ rfl (World.ownsRow.alloc (w := w1.drewN q) HO1.out _) ⟨w1.heap.size, 0, none⟩ 1 1 [.int .i64 0, .int .i64 0] rfl rfl (cell_new2 (w1.drewN q) _ _ _) (by simp [Value.oneCell']) q1 q2 (q3 _) ?_; intro v' w4 hown4 hgrow4 _; obtain ⟨g, cap4, cur, rfl, hgB, hh4, hn4, hx4, hs4, ht4⟩ := own_some hown4 (by omega))
          have eA : IntKind.i64.wrap ((a : Int) + 1) = ((a + 1 : Nat) : Int) := by rw [IntKind.wrap_i64]; omega
          have l0 : (0 : Int) ≤ ((a + 1 : Nat) : Int) := by omega
          have l1 : ((a + 1 : Nat) : Int) ≤ ((N.length + 1 : Nat) : Int) := by omega
          have l2 : (0 : Int) ≤ (a : Int) := by omega
          have l3 : (a : Int) ≤ ((N.length + 1 : Nat) : Int) := by omega
          obtain ⟨cur5, hcp, h5⟩ := ins_copy ha hh4 hn4 hs4 ht4
          obtain ⟨hO, hG, hZ⟩ := ins_own x c ha hgB hh4 hn4 hx4 hs4 ht4 h5
          have HOO : Hid ((((w4.drew.setRow g cur5).setCell ⟨g, a * 2, none⟩ (.int .i64 x)).setCell ⟨g, a * 2 + 1, none⟩ (.int .i64 c)).ownsRow (w.heap.size + 1) 58 2 (.slice (some ⟨g, 0, none⟩) (N.length + 1) cap4) (insA N a (x, c)).length (flatP (insA N a (x, c)))) := hO
          have HGG : Hid (w4.grownBy (((w4.drew.setRow g cur5).setCell ⟨g, a * 2, none⟩ (.int .i64 x)).setCell ⟨g, a * 2 + 1, none⟩ (.int .i64 c)) (some g)) := hG
          have HGB : Hid (w.heap.size + 1 ≤ g) := hgB
          have hb5 := setRow_heap w4.drew g cur cur5 58 (0, 0) hh4
          have s5 : cur5.size = cap4 * 2 := by
            rw [← Array.length_toList, h5]
            simp only [List.length_append, List.length_take, List.length_drop, flatP_len, Array.length_toList, hs4]
            omega
          have y0 : ∃ u, (w4.drew.setRow g cur5).cell? ⟨g, a * 2, none⟩ = some u := by
            obtain ⟨u, hu⟩ : ∃ u, cur5[a * 2]? = some u := ⟨_, Array.getElem?_eq_getElem (by omega)⟩
            exact ⟨u, by simp [World.cell?, hb5, hu]⟩
          have y1 : ∃ u, (w4.drew.setRow g cur5).cell? ⟨g, a * 2 + 1, none⟩ = some u := by
            obtain ⟨u, hu⟩ : ∃ u, cur5[a * 2 + 1]? = some u := ⟨_, Array.getElem?_eq_getElem (by omega)⟩
            exact ⟨u, by simp [World.cell?, hb5, hu]⟩
          have z0 : (w4.drew.setRow g cur5).frozen? ⟨g, a * 2, none⟩ = false := by simp [World.frozen?, hb5]
          have z1 : (w4.drew.setRow g cur5).frozen? ⟨g, a * 2 + 1, none⟩ = false := by simp [World.frozen?, hb5]
          obtain ⟨u0, y0⟩ := y0
          obtain ⟨u1, y1⟩ := y1
          clear hO hG hZ hb5 s5 h5 hh4 ht4 hs4 hgB
          have HGW : Hid (((w1.drewN q).alloc (.cells #[.int .i64 0, .int .i64 0] 58)).grownBy w4 (Value.slice ox N.length ocap).ownBlock) := hgrow4
          clear hgrow4 hown4
          have hne : ∀ k, k < w.heap.size + 1 → some k ≠ (Value.slice ox N.length ocap).ownBlock := fun k hk e => by
            have := (HO1.out.lt _ e.symm).1
            omega
          have hneg : ∀ k, k < w.heap.size + 1 → some k ≠ some g := fun k hk e => by
            have := HGB.out
            cases e
            omega
          have HRQ : ((w1.drewN q).alloc (.cells #[.int .i64 0, .int .i64 0] 58)).ranges Tryd.prog 3 (plainElem Tryd.prog 3) b w.heap.size L.length (.map l) (fun z => left z && !z.sameKey (.int .i64 x)) cnt1 := World.ranges.alloc (ranges_drewN HRG1.out q) _
          have hrg4 := (HRQ.kept HGW.out (hne b (by have := HBL.out; omega)) (hne _ (by omega))).kept HGG.out (hneg b (by have := HBL.out; omega)) (hneg _ (by omega))
          have HBQ : Below w.heap.size w ((w1.drewN q).alloc (.cells #[.int .i64 0, .int .i64 0] 58)) := (below_drewN' HB1.out q).alloc HB1.out.size _
          have HB4 : Below w.heap.size w w4 := HBQ.grown HGW.out HBQ.size (fun j e => by have := (HO1.out.lt j e).1; omega)
          have HBE : Hid (Below w.heap.size w (((w4.drew.setRow g cur5).setCell ⟨g, a * 2, none⟩ (.int .i64 x)).setCell ⟨g, a * 2 + 1, none⟩ (.int .i64 c))) := HB4.grown HGG.out HB4.size (fun j e => by cases e; have := HGB.out; omega)
          have HRG4 : Hid ((((w4.drew.setRow g cur5).setCell ⟨g, a * 2, none⟩ (.int .i64 x)).setCell ⟨g, a * 2 + 1, none⟩ (.int .i64 c)).ranges Tryd.prog 3 (plainElem Tryd.prog 3) b w.heap.size L.length (.map l) (fun z => left z && !z.sameKey (.int .i64 x)) cnt1) := hrg4
          clear hrg4 HRQ HBQ HB4
          go_region
          clear hcp
          generalize w4.drew.setRow g cur5 = w5 at *
          go_wp2
          have hrg4 := HRG4.out
          go_roundw
          case rel =>
            refine ⟨_, cnt1, insA N a (x, c), hrg4, HOO.out, ⟨(ins_perm N a (x, c)).trans HNS.out, ins_sorted HNS0.out HNE.out HLT.out HST.out ha⟩, ?_⟩
            exact HBE.out
          case measure => rw [hrg4.left_eq, HLE.out]; omega
end Go.Proofs.YtkmbnklfaaopaaaDoor
