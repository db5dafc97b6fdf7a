/-
  The reference's Names. Conditions: the book lies in memory.
-/
import Derived.Test.YtheadpemckoljaaGreatDoorJi
namespace Go.Proofs.YtheadpemckoljaaGreatDoor
open Go.RowKit Go.Extern.Stop Go.Stop Go.Extern Go.Maps Go.WideMaps

theorem ownS_drewN {w : World} {B : Nat} {e : TypeId} {v : Value} {n k : Nat} {xs : List Value} (h : w.ownsRow B e k v n xs) (q : Nat) : (w.drewN q).ownsRow B e k v n xs := h
theorem ownS_kept {w w' : World} {B : Nat} {e : TypeId} {v : Value} {n k : Nat} {xs : List Value} (h : w.ownsRow B e k v n xs) (hk : ∀ j, v.ownBlock = some j → w'.heap[j]? = w.heap[j]?) : w'.ownsRow B e k v n xs := by
  refine ⟨h.1, ?_⟩
  rcases h.2 with h1 | ⟨g, cap, cur, h1, h2, h3, h4⟩
  · exact Or.inl h1
  · exact Or.inr ⟨g, cap, cur, h1, h2, (hk g (by rw [h1]; rfl)).trans h3, h4⟩
theorem ownS_lt {w : World} {B : Nat} {e : TypeId} {v : Value} {n k : Nat} {xs : List Value} (h : w.ownsRow B e k v n xs) {j : Nat} (hj : v.ownBlock = some j) : B ≤ j ∧ j < w.heap.size := by
  rcases h.2 with ⟨h1, _⟩ | ⟨g, cap, cur, h1, h2, h3, h4⟩
  · rw [h1] at hj; cases hj
  · rw [h1] at hj
    cases hj
    exact ⟨h2, lt_of_block h3⟩
theorem cell_newS (w : World) (v : Value) (t : TypeId) (b : Nat) (hb : b = w.heap.size) : ∀ j u, [v][j]? = some u → (w.alloc (.cells #[v] t)).cell? ((⟨b, 0, none⟩ : Addr).add j) = some u := by
  intro j u h
  subst hb
  cases j with
  | zero => simp at h; subst h; simp [Addr.add]
  | succ j => simp at h
/-- The model's less on strings is the lists' own. -/
theorem lessJ (x : List UInt8) : ∀ y : List UInt8, Op.bytesLess x y = decide (x < y) := by
  induction x with
  | nil => intro y; cases y <;> simp [Op.bytesLess]
  | cons a x ih =>
    intro y
    cases y with
    | nil => simp [Op.bytesLess]
    | cons b y =>
      have e : ((a :: x) < (b :: y)) ↔ (a < b ∨ a = b ∧ x < y) := List.cons_lt_cons_iff
      rw [Op.bytesLess, ih y, decide_eq_decide.2 e, Bool.decide_or, Bool.decide_and]
      congr 2
set_option maxRecDepth 100000 in
set_option maxHeartbeats 4000000 in
theorem rnames_any (p : Nat) (lv : Value) (l : List Ent) (w : World) (h : RbAt w p lv l) :
    Calls Tryz.prog 19 #[.pointer (some ⟨p, 0, none⟩)] w fun e w' => ∃ v ss, e = .returned v ∧ NamesOf l ss ∧ w'.ownsRow w.heap.size 9 1 v ss.length (ss.map encStr) ∧ Below w.heap.size w w' := by
  have HB : Hid (∀ w', Below w.heap.size w w' → RbAt w' p lv l) := fun w' hb => h.below hb
  have hfew := h.few
  obtain ⟨lx, lc, rfl⟩ := owns_slice h.row
  obtain ⟨c0, -⟩ := one_cellj h.blk
  obtain ⟨i0, hi0, hz0, hz1, hz2⟩ := info3 infoStr
  clear h
  go_enter Tryz.func19, Tryz.ntmps19
  go_wp2
  go_loopg [12, 3] l.length (fun g v12 o wx => ∃ (i : Nat) (N : List (List UInt8)), i + g = l.length ∧ v12 = .int .i64 i ∧ N.length ≤ i ∧ Hid (wx.ownsRow w.heap.size 9 1 o N.length (N.map encStr)) ∧ Hid (NamesOf (l.take i) N) ∧ Hid (Below w.heap.size w wx))
  case atStart => exact ⟨0, [], by omega, rfl, Nat.le_refl _, World.ownsRow_nil _ _ _ _, ⟨List.Pairwise.nil, fun s => by simp⟩, Below.refl _ _⟩
  case round =>
    obtain ⟨i, N, hig, rfl, hNi, HOW, HNA, HBB⟩ := hrel
    obtain ⟨nx, nc, rfl⟩ := owns_slice HOW.out
    by_cases hi : i < l.length
    · obtain ⟨e, he⟩ : ∃ e, l[i]? = some e := ⟨_, List.getElem?_eq_getElem hi⟩
      have HE : Hid (l[i]? = some e) := he
      rcases (HB.out wr HBB.out).cells with ⟨_, h0⟩ | ⟨g, c, hlv, hc⟩
      · rw [h0] at he; simp at he
      simp only [Value.slice.injEq, true_and] at hlv
      obtain ⟨rfl, rfl⟩ := hlv
      obtain ⟨q0, q1⟩ := hc i e he
      have hi1 : (i : Int) < l.length := by omega
      obtain ⟨W1, rfl⟩ : ∃ W, wr = W := ⟨_, rfl⟩
      obtain ⟨W2, hW2⟩ : ∃ W, wr.alloc (.cells #[.string ⟨e.1.toArray⟩, .int .i64 e.2] 69) = W := ⟨_, rfl⟩
      have HB2 : Hid (Below w.heap.size w W2) := by rw [← hW2]; exact below_alloc_ HBB.out _
      have HO2 : Hid (W2.ownsRow w.heap.size 9 1 (.slice nx N.length nc) N.length (N.map encStr)) := by rw [← hW2]; exact ownS_kept HOW.out fun j hj => Below.heap_alloc _ _ _ (ownS_lt HOW.out hj).2
      have cE : W2.cell? ⟨wr.heap.size, 0, none⟩ = some (.string ⟨e.1.toArray⟩) := by rw [← hW2]; simp only [World.cell?, new_block]; rfl
      have HEB : Hid (W2.heap[wr.heap.size]? = some (.cells #[.string ⟨e.1.toArray⟩, .int .i64 e.2] 69 (0, 0))) := by rw [← hW2]; exact new_block _ _
      clear hc he
      go_wp2
      clear hW2 q0 q1
      have HCS : Hid _ := owns_cells HO2.out
      go_loopw [6] (fun v wx => ∃ a : Nat, a ≤ N.length ∧ v = .int .i64 a ∧ Hid (∀ j q, j < a → N[j]? = some q → q < e.1) ∧ ∃ q, wx = W2.drewN q) (fun v _ => N.length - (intOf v).toNat)
      case atStart => exact ⟨0, Nat.zero_le _, rfl, fun j q hj => by omega, 0, rfl⟩
      case round =>
        obtain ⟨a, ha, rfl, HLT, q, rfl⟩ := hrel
        by_cases hal : a < N.length
        · obtain ⟨s, hs⟩ : ∃ s, N[a]? = some s := ⟨_, List.getElem?_eq_getElem hal⟩
          have HSN : Hid (N[a]? = some s) := hs
          rcases HCS.out with ⟨_, h0⟩ | ⟨g2, c2, hnv, hc2⟩
          · omega
          simp only [Value.slice.injEq, true_and] at hnv
          obtain ⟨rfl, rfl⟩ := hnv
          have e0 : W2.cell? ⟨g2, a, none⟩ = some (.string ⟨s.toArray⟩) := hc2 a _ (by rw [List.getElem?_map, hs]; rfl)
          have hal1 : (a : Int) < N.length := by omega
          clear hc2 hs
          by_cases hlt : s < e.1
          · have d1 : Op.bytesLess s e.1 = true := by rw [lessJ]; exact decide_eq_true hlt
            have HLT' : Hid (∀ j q, j < a + 1 → N[j]? = some q → q < e.1) := fun j q hj hq => by
              by_cases ej : j = a
              · subst ej; rw [HSN.out] at hq; cases hq; exact hlt
              · exact HLT.out j q (by omega) hq
            clear hlt
            go_wp2
            go_quiet (fail)
            go_wp2
            go_roundw
            case rel => exact ⟨a + 1, by omega, by go_num, HLT', _, rfl⟩
            case measure => simp [intOf]; omega
          · have d1 : Op.bytesLess s e.1 = false := by rw [lessJ]; exact decide_eq_false hlt
            by_cases heq : s = e.1
            · have hq : (s == e.1) = true := by simpa using heq
              have hq2 : (s != e.1) = false := by simpa using heq
              have hq3 : ((a : Int) == N.length) = false := by simp; omega
              have HNE2 : Hid (NamesOf (l.take (i + 1)) N) := names_in HNA.out HE.out (by rw [HSN.out, heq])
              clear hlt heq
              go_wp2
              go_quiet (fail)
              go_wp2
              go_quiet (fail)
              go_wp2
              go_roundg (gk - 1)
              case measure => omega
              case rel => exact ⟨i + 1, N, by omega, by go_num, by omega, HO2.out, HNE2.out, ⟨HB2.out.os, HB2.out.tape, HB2.out.output, HB2.out.size, HB2.out.block⟩⟩
            · have hq : (s == e.1) = false := by simpa using heq
              have hq2 : (s != e.1) = true := by simpa using heq
              have hq3 : ((a : Int) == N.length) = false := by simp; omega
              have HNE2 : Hid (NamesOf (l.take (i + 1)) (insS N a e.1)) := names_new HNA.out HE.out HLT.out (fun q hq => by rw [HSN.out] at hq; cases hq; exact ltS_total hlt heq) ha
              clear hlt heq
              go_wp2
              go_quiet (fail)
              go_wp2
              go_quiet (fail)
              have q1 : N.length + 1 ≤ maxLen := by unfold maxLen; omega
              have q2 : (N.length + 1) * 16 ≤ 140737488355328 := by omega
              go_wp2_with (at_builtin; refine wpList_append_own _ rfl _ _ 22 rfl w.heap.size 9 i0 (.string ⟨#[]⟩) 1 16 Tryz.underlying22 hi0 hz0 hz1 hz2 rfl (by decide) _ _ _ rfl (ownS_kept (w := W2) HO2.out (fun j hj => Below.heap_alloc _ _ _ (ownS_lt HO2.out hj).2)) ⟨W2.heap.size, 0, none⟩ 1 1 [.string ⟨#[]⟩] rfl rfl (cell_newS _ _ _ _ rfl) (by simp [Value.oneCell']) q1 q2 (Nat.le_trans HB2.out.size (by simp)) ?_; intro v' w4 hown4 hgrow4 _; obtain ⟨g4, cap4, cur, rfl, hgB, hh4, hn4, hx4, hs4, ht4⟩ := own_some1 hown4 (by omega))
              have hcc : ¬ cap4 = a + 1 := by omega
              have eA : IntKind.i64.wrap ((a : Int) + 1) = ((a + 1 : Nat) : Int) := by rw [IntKind.wrap_i64]; omega
              have l0 : (0 : Int) ≤ ((a + 1 : Nat) : Int) := by omega
              have l1 : ((a + 1 : Nat) : Int) ≤ ((N.length + 1 : Nat) : Int) := by omega
              have l2 : (0 : Int) ≤ (a : Int) := by omega
              have l3 : (a : Int) ≤ ((N.length + 1 : Nat) : Int) := by omega
              obtain ⟨cur5, hcp, h5⟩ := insS_copy (w := w4.drew) ha hh4 hn4 hs4 ht4
              rw [if_neg hcc] at hcp
              obtain ⟨hO, hG⟩ := insS_own (w := w4.drew) e.1 ha hgB hh4 hn4 hx4 hs4 ht4 h5
              have HOO : Hid (((w4.drew.setRow g4 cur5).setCell ⟨g4, a, none⟩ (.string ⟨e.1.toArray⟩)).ownsRow w.heap.size 9 1 _ (insS N a e.1).length ((insS N a e.1).map encStr)) := hO
              have HGG : Hid (w4.drew.grownBy ((w4.drew.setRow g4 cur5).setCell ⟨g4, a, none⟩ (.string ⟨e.1.toArray⟩)) (some g4)) := hG
              have hb5 := setRow_heap w4.drew g4 cur cur5 9 (0, 0) hh4
              have s5 : a < cur5.size := by
                rw [← Array.length_toList, h5]
                simp only [List.length_append, List.length_take, List.length_drop, List.length_map, Array.length_toList, hs4]
                omega
              have y0 : ∃ u, (w4.drew.setRow g4 cur5).cell? ⟨g4, a, none⟩ = some u := by
                obtain ⟨u, hu⟩ : ∃ u, cur5[a]? = some u := ⟨_, Array.getElem?_eq_getElem (by omega)⟩
                exact ⟨u, by simp [World.cell?, hb5, hu]⟩
              have z0 : (w4.drew.setRow g4 cur5).frozen? ⟨g4, a, none⟩ = false := by simp [World.frozen?, hb5]
              obtain ⟨u0, y0⟩ := y0
              have k2 : w4.heap[wr.heap.size]? = some (.cells #[.string ⟨e.1.toArray⟩, .int .i64 e.2] 69 (0, 0)) := by
                refine (hgrow4.block _ ?_ ?_).trans ((Below.heap_alloc _ _ _ ?_).trans HEB.out)
                · simp; have := lt_of_block HEB.out; omega
                · intro e; have := (ownS_lt HOW.out e.symm).2; omega
                · exact lt_of_block HEB.out
              have hne4 : wr.heap.size ≠ g4 := fun e => by rw [← e, k2] at hh4; simp at hh4
              have k3 : (w4.drew.setRow g4 cur5).heap[wr.heap.size]? = some (.cells #[.string ⟨e.1.toArray⟩, .int .i64 e.2] 69 (0, 0)) := (setRow_other w4.drew g4 wr.heap.size cur5 hne4).trans k2
              have cE5 : (w4.drew.setRow g4 cur5).cell? ⟨wr.heap.size, 0, none⟩ = some (.string ⟨e.1.toArray⟩) := by
                simp only [World.cell?, k3]
                rfl
              have HBE : Hid (Below w.heap.size w ((w4.drew.setRow g4 cur5).setCell ⟨g4, a, none⟩ (.string ⟨e.1.toArray⟩))) := by
                have b4 : Below w.heap.size w w4 := by
                  refine Below.grown ?_ hgrow4 ?_ ?_
                  · refine below_alloc_ ?_ _; exact ⟨HB2.out.os, HB2.out.tape, HB2.out.output, HB2.out.size, HB2.out.block⟩
                  · have := HB2.out.size; simp; omega
                  · exact fun j hj => (ownS_lt HOW.out hj).1
                refine Below.grown b4.drew hG b4.size (fun j hj => ?_)
                cases hj
                exact hgB
              clear k2 hne4 k3 hO hG hb5 s5 h5 hh4 ht4 hs4 hgB hgrow4 hown4
              go_region
              clear hcp
              generalize w4.drew.setRow g4 cur5 = w5 at *
              go_wp2
              go_roundg (gk - 1)
              case measure => omega
              case rel => exact ⟨i + 1, insS N a e.1, by omega, by go_num, by rw [insS_len]; omega, HOO.out, HNE2.out, HBE.out⟩
        · have HNE2 : Hid (NamesOf (l.take (i + 1)) (insS N a e.1)) := names_new HNA.out HE.out HLT.out (fun q hq => by rw [List.getElem?_eq_none (by omega)] at hq; cases hq) ha
          have hal1 : ¬ (a : Int) < N.length := by omega
          have hq3 : ((a : Int) == N.length) = true := by simp; omega
          go_wp2
          go_quiet (fail)
          go_wp2
          go_quiet (fail)
          have q1 : N.length + 1 ≤ maxLen := by unfold maxLen; omega
          have q2 : (N.length + 1) * 16 ≤ 140737488355328 := by omega
          go_wp2_with (at_builtin; refine wpList_append_own _ rfl _ _ 22 rfl w.heap.size 9 i0 (.string ⟨#[]⟩) 1 16 Tryz.underlying22 hi0 hz0 hz1 hz2 rfl (by decide) _ _ _ rfl (ownS_kept (w := W2) HO2.out (fun j hj => Below.heap_alloc _ _ _ (ownS_lt HO2.out hj).2)) ⟨W2.heap.size, 0, none⟩ 1 1 [.string ⟨#[]⟩] rfl rfl (cell_newS _ _ _ _ rfl) (by simp [Value.oneCell']) q1 q2 (Nat.le_trans HB2.out.size (by simp)) ?_; intro v' w4 hown4 hgrow4 _; obtain ⟨g4, cap4, cur, rfl, hgB, hh4, hn4, hx4, hs4, ht4⟩ := own_some1 hown4 (by omega))
          by_cases hcc : cap4 = a + 1
          · subst hcc
            have eA : IntKind.i64.wrap ((a : Int) + 1) = ((a + 1 : Nat) : Int) := by rw [IntKind.wrap_i64]; omega
            have l0 : (0 : Int) ≤ ((a + 1 : Nat) : Int) := by omega
            have l1 : ((a + 1 : Nat) : Int) ≤ ((N.length + 1 : Nat) : Int) := by omega
            have l2 : (0 : Int) ≤ (a : Int) := by omega
            have l3 : (a : Int) ≤ ((N.length + 1 : Nat) : Int) := by omega
            obtain ⟨cur5, hcp, h5⟩ := insS_copy (w := w4.drew) ha hh4 hn4 hs4 ht4
            rw [if_pos rfl, show N.length - a = 0 by omega, Nat.sub_self, show a + 1 - a = 1 by omega] at hcp
            obtain ⟨hO, hG⟩ := insS_own (w := w4.drew) e.1 ha hgB hh4 hn4 hx4 hs4 ht4 h5
            have HOO : Hid (((w4.drew.setRow g4 cur5).setCell ⟨g4, a, none⟩ (.string ⟨e.1.toArray⟩)).ownsRow w.heap.size 9 1 _ (insS N a e.1).length ((insS N a e.1).map encStr)) := hO
            have HGG : Hid (w4.drew.grownBy ((w4.drew.setRow g4 cur5).setCell ⟨g4, a, none⟩ (.string ⟨e.1.toArray⟩)) (some g4)) := hG
            have hb5 := setRow_heap w4.drew g4 cur cur5 9 (0, 0) hh4
            have s5 : a < cur5.size := by
              rw [← Array.length_toList, h5]
              simp only [List.length_append, List.length_take, List.length_drop, List.length_map, Array.length_toList, hs4]
              omega
            have y0 : ∃ u, (w4.drew.setRow g4 cur5).cell? ⟨g4, a, none⟩ = some u := by
              obtain ⟨u, hu⟩ : ∃ u, cur5[a]? = some u := ⟨_, Array.getElem?_eq_getElem (by omega)⟩
              exact ⟨u, by simp [World.cell?, hb5, hu]⟩
            have z0 : (w4.drew.setRow g4 cur5).frozen? ⟨g4, a, none⟩ = false := by simp [World.frozen?, hb5]
            obtain ⟨u0, y0⟩ := y0
            have k2 : w4.heap[wr.heap.size]? = some (.cells #[.string ⟨e.1.toArray⟩, .int .i64 e.2] 69 (0, 0)) := by
              refine (hgrow4.block _ ?_ ?_).trans ((Below.heap_alloc _ _ _ ?_).trans HEB.out)
              · simp; have := lt_of_block HEB.out; omega
              · intro e; have := (ownS_lt HOW.out e.symm).2; omega
              · exact lt_of_block HEB.out
            have hne4 : wr.heap.size ≠ g4 := fun e => by rw [← e, k2] at hh4; simp at hh4
            have k3 : (w4.drew.setRow g4 cur5).heap[wr.heap.size]? = some (.cells #[.string ⟨e.1.toArray⟩, .int .i64 e.2] 69 (0, 0)) := (setRow_other w4.drew g4 wr.heap.size cur5 hne4).trans k2
            have cE5 : (w4.drew.setRow g4 cur5).cell? ⟨wr.heap.size, 0, none⟩ = some (.string ⟨e.1.toArray⟩) := by
              simp only [World.cell?, k3]
              rfl
            have HBE : Hid (Below w.heap.size w ((w4.drew.setRow g4 cur5).setCell ⟨g4, a, none⟩ (.string ⟨e.1.toArray⟩))) := by
              have b4 : Below w.heap.size w w4 := by
                refine Below.grown ?_ hgrow4 ?_ ?_
                · refine below_alloc_ ?_ _; exact ⟨HB2.out.os, HB2.out.tape, HB2.out.output, HB2.out.size, HB2.out.block⟩
                · have := HB2.out.size; simp; omega
                · exact fun j hj => (ownS_lt HOW.out hj).1
              refine Below.grown b4.drew hG b4.size (fun j hj => ?_)
              cases hj
              exact hgB
            clear k2 hne4 k3 hO hG hb5 s5 h5 hh4 ht4 hs4 hgB hgrow4 hown4
            go_region
            clear hcp
            generalize w4.drew.setRow g4 cur5 = w5 at *
            go_wp2
            go_roundg (gk - 1)
            case measure => omega
            case rel => exact ⟨i + 1, insS N a e.1, by omega, by go_num, by rw [insS_len]; omega, HOO.out, HNE2.out, HBE.out⟩
          · have eA : IntKind.i64.wrap ((a : Int) + 1) = ((a + 1 : Nat) : Int) := by rw [IntKind.wrap_i64]; omega
            have l0 : (0 : Int) ≤ ((a + 1 : Nat) : Int) := by omega
            have l1 : ((a + 1 : Nat) : Int) ≤ ((N.length + 1 : Nat) : Int) := by omega
            have l2 : (0 : Int) ≤ (a : Int) := by omega
            have l3 : (a : Int) ≤ ((N.length + 1 : Nat) : Int) := by omega
            obtain ⟨cur5, hcp, h5⟩ := insS_copy (w := w4.drew) ha hh4 hn4 hs4 ht4
            rw [if_neg hcc] at hcp
            obtain ⟨hO, hG⟩ := insS_own (w := w4.drew) e.1 ha hgB hh4 hn4 hx4 hs4 ht4 h5
            have HOO : Hid (((w4.drew.setRow g4 cur5).setCell ⟨g4, a, none⟩ (.string ⟨e.1.toArray⟩)).ownsRow w.heap.size 9 1 _ (insS N a e.1).length ((insS N a e.1).map encStr)) := hO
            have HGG : Hid (w4.drew.grownBy ((w4.drew.setRow g4 cur5).setCell ⟨g4, a, none⟩ (.string ⟨e.1.toArray⟩)) (some g4)) := hG
            have hb5 := setRow_heap w4.drew g4 cur cur5 9 (0, 0) hh4
            have s5 : a < cur5.size := by
              rw [← Array.length_toList, h5]
              simp only [List.length_append, List.length_take, List.length_drop, List.length_map, Array.length_toList, hs4]
              omega
            have y0 : ∃ u, (w4.drew.setRow g4 cur5).cell? ⟨g4, a, none⟩ = some u := by
              obtain ⟨u, hu⟩ : ∃ u, cur5[a]? = some u := ⟨_, Array.getElem?_eq_getElem (by omega)⟩
              exact ⟨u, by simp [World.cell?, hb5, hu]⟩
            have z0 : (w4.drew.setRow g4 cur5).frozen? ⟨g4, a, none⟩ = false := by simp [World.frozen?, hb5]
            obtain ⟨u0, y0⟩ := y0
            have k2 : w4.heap[wr.heap.size]? = some (.cells #[.string ⟨e.1.toArray⟩, .int .i64 e.2] 69 (0, 0)) := by
              refine (hgrow4.block _ ?_ ?_).trans ((Below.heap_alloc _ _ _ ?_).trans HEB.out)
              · simp; have := lt_of_block HEB.out; omega
              · intro e; have := (ownS_lt HOW.out e.symm).2; omega
              · exact lt_of_block HEB.out
            have hne4 : wr.heap.size ≠ g4 := fun e => by rw [← e, k2] at hh4; simp at hh4
            have k3 : (w4.drew.setRow g4 cur5).heap[wr.heap.size]? = some (.cells #[.string ⟨e.1.toArray⟩, .int .i64 e.2] 69 (0, 0)) := (setRow_other w4.drew g4 wr.heap.size cur5 hne4).trans k2
            have cE5 : (w4.drew.setRow g4 cur5).cell? ⟨wr.heap.size, 0, none⟩ = some (.string ⟨e.1.toArray⟩) := by
              simp only [World.cell?, k3]
              rfl
            have HBE : Hid (Below w.heap.size w ((w4.drew.setRow g4 cur5).setCell ⟨g4, a, none⟩ (.string ⟨e.1.toArray⟩))) := by
              have b4 : Below w.heap.size w w4 := by
                refine Below.grown ?_ hgrow4 ?_ ?_
                · refine below_alloc_ ?_ _; exact ⟨HB2.out.os, HB2.out.tape, HB2.out.output, HB2.out.size, HB2.out.block⟩
                · have := HB2.out.size; simp; omega
                · exact fun j hj => (ownS_lt HOW.out hj).1
              refine Below.grown b4.drew hG b4.size (fun j hj => ?_)
              cases hj
              exact hgB
            clear k2 hne4 k3 hO hG hb5 s5 h5 hh4 ht4 hs4 hgB hgrow4 hown4
            go_region
            clear hcp
            generalize w4.drew.setRow g4 cur5 = w5 at *
            go_wp2
            go_roundg (gk - 1)
            case measure => omega
            case rel => exact ⟨i + 1, insS N a e.1, by omega, by go_num, by rw [insS_len]; omega, HOO.out, HNE2.out, HBE.out⟩
    · obtain rfl : i = l.length := by omega
      have e : l.take l.length = l := List.take_of_length_le (Nat.le_refl _)
      rw [e] at HNA
      clear e
      go_wp2
      go_ret
      exact ⟨_, N, rfl, HNA.out, HOW.out, HBB.out⟩
end Go.Proofs.YtheadpemckoljaaGreatDoor
