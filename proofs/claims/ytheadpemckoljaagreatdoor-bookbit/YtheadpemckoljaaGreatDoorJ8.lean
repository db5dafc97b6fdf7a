/-
  (*book.Book).Crash. Conditions: the book lies in memory; what is torn does too.
-/
import Derived.Test.YtheadpemckoljaaGreatDoorJ7
namespace Go.Proofs.YtheadpemckoljaaGreatDoor
open Go.RowKit Go.Extern.Stop Go.Stop Go.Extern Go.Maps Go.WideMaps

theorem owns_some {w : World} {base n : Nat} {e : TypeId} {v : Value} {l : List UInt8} (h : w.ownsRow base e 1 v n (Lib.byteCells l)) : (v = .slice none 0 0 ∧ n = 0 ∧ l = []) ∨ ∃ g c, v = .slice (some ⟨g, 0, none⟩) n c ∧ n = l.length ∧ n ≤ c ∧ c ≤ maxLen ∧ ∀ (j : Nat) x, l[j]? = some x → w.cell? ⟨g, 0 + j, none⟩ = some (.int .u8 (x.toNat : Int)) := by
  have hn : n = l.length := by have := h.1; simpa [Lib.byteCells] using this.symm
  rcases h.2 with ⟨h1, h2⟩ | ⟨g, cap, cur, rfl, hg, hb, h1, h2, h3, h4⟩
  · exact Or.inl ⟨h1, h2, List.length_eq_zero_iff.1 (by omega)⟩
  · refine Or.inr ⟨g, cap, rfl, hn, h1, h2, fun j x hx => ?_⟩
    have hj : (Lib.byteCells l)[j]? = some (.int .u8 (x.toNat : Int)) := by unfold Lib.byteCells; rw [List.getElem?_map, hx]; rfl
    rw [Nat.zero_add]
    simp only [World.cell?, hb]
    rw [← h4, List.getElem?_take] at hj
    split at hj
    · simpa using hj
    · simp at hj
theorem take_bt {w : World} {g c m : Nat} {l : List UInt8} (hc : ∀ (j : Nat) x, l[j]? = some x → w.cell? ⟨g, 0 + j, none⟩ = some (.int .u8 (x.toNat : Int))) (hm : m ≤ l.length) : BtAt w (.slice (some ⟨g, 0, none⟩) m c) (l.take m) := by
  refine Or.inr ⟨g, 0, c, by rw [List.length_take, Nat.min_eq_left hm], fun j x hx => hc j x ?_⟩
  rw [List.getElem?_take] at hx
  split at hx
  · exact hx
  · simp at hx
set_option maxRecDepth 100000 in
set_option maxHeartbeats 2000000 in
theorem crash_yes (b : Nat) (cm : Option Nat) (jv : Value) (sure keep : Nat) (l : List Ent) (tv : Value) (torn : List UInt8) (w : World) (h : BkAt w b cm jv sure l) (ht : BtAt w tv torn) (hk : sure + keep ≤ (jour l).length) (htl : torn.length ≤ 100000) :
    Calls Tryz.prog 20 #[.pointer (some ⟨b, 0, none⟩), .int .i64 keep, tv] w fun e w' => ∃ v, e = .returned (.tuple #[v, .nilIface]) ∧ w'.ownsRow w.heap.size 5 1 v (sure + keep + torn.length) (Lib.byteCells ((jour l).take (sure + keep) ++ torn)) ∧ Below w.heap.size w w' := by
  have hjl := jour_len h.ok h.few
  have HR := read_any b cm jv sure l w h
  have hjr := h.jr
  have hsz := lt_of_block h.blk
  clear h
  obtain ⟨ta, tc, rfl⟩ := ht.slice
  have hlt : ((jour l).take (sure + keep)).length = sure + keep := by rw [List.length_take]; omega
  have HCC : Hid (∀ w' A v0 , Below w.heap.size w w' → w'.heap[A]? = some (.cells #[v0, .slice ta torn.length tc] 25 (0, 0)) → BtAt w v0 ((jour l).take (sure + keep)) → Calls Tryz.prog 36 #[.slice (some ⟨A, 0, none⟩) 2 2] w' fun e w2 => ∃ x c, e = .returned (.slice x (sure + keep + torn.length) c) ∧ w2.ownsRow w.heap.size 5 1 (.slice x (sure + keep + torn.length) c) (sure + keep + torn.length) (Lib.byteCells ((jour l).take (sure + keep) ++ torn)) ∧ Below w.heap.size w w2) := by
    intro w' A v0 hb hA h0
    refine (concat_any v0 _ _ torn A w' (h0.below hb) (ht.below hb) hA (by rw [hlt]; omega)).mono ?_
    rintro e w2 ⟨v, rfl, hv, hb2⟩
    rw [hlt] at hv
    obtain ⟨x, c, rfl⟩ := owns_slice hv
    refine ⟨x, c, rfl, ⟨hv.1, ?_⟩, hb.trans (hb2.mono hb.size)⟩
    rcases hv.2 with h1 | ⟨g, cap, cur, h1, h2, h3⟩
    · exact Or.inl h1
    · exact Or.inr ⟨g, cap, cur, h1, Nat.le_trans hb.size h2, h3⟩
  have HT := ht
  obtain ⟨NJ, HNJ⟩ : ∃ NJ, Hid ((jour l).length = NJ) := ⟨_, rfl⟩
  have HBT : Hid (BtAt w jv (jour l)) := bt_of_owns hjr
  rcases owns_some hjr with ⟨rfl, h0, h1⟩ | ⟨g, c, rfl, hn, hnc, hcm, hc⟩
  · obtain ⟨rfl, rfl⟩ : sure = 0 ∧ keep = 0 := by omega
    have H0 : Hid (BtAt w (.slice none 0 0) ((jour l).take (0 + 0))) := Or.inl ⟨by simp, Or.inl rfl⟩
    clear hjr h0 h1 hk ht HT
    go_enter Tryz.func20, Tryz.ntmps20
    go_wp2_with fail
    refine HR.mono ?_
    rintro e w1 ⟨rfl, hb1⟩
    have HB1 : Hid (Below w.heap.size w w1) := hb1
    have hs1 := hb1.size
    clear hb1
    go_wp2_with fail
    refine (HCC.out _ (w1.heap.size + 1) (.slice none 0 0) ?_ ?_ H0.out).mono ?_
    · exact below_alloc_ (below_alloc_ HB1.out _) _
    · exact new_block_ (by simp)
    rintro e w2 ⟨x, c, rfl, hv, hb2⟩
    go_wp2
    go_ret2
    refine ⟨_, rfl, ?_, hb2⟩
    simpa using hv
  · have H0 : Hid (∀ w', Below w.heap.size w w' → BtAt w' (.slice (some ⟨g, 0, none⟩) (sure + keep) c) ((jour l).take (sure + keep))) := fun w' hb => (take_bt hc (by omega)).below hb
    have hk1 : ¬ (keep : Int) < 0 := by omega
    have hk2 : ¬ ((jour l).length : Int) - (sure : Int) < (keep : Int) := by omega
    have hk3 : (sure : Int) + (keep : Int) ≤ (c : Int) := by omega
    have hk4 : ((sure : Int) + (keep : Int)).toNat = sure + keep := by omega
    have hk5 : sure + keep ≤ c := by omega
    unfold maxLen at hcm
    clear hjr hn ht HT hc
    go_enter Tryz.func20, Tryz.ntmps20
    go_wp2_with fail
    refine HR.mono ?_
    rintro e w1 ⟨rfl, hb1⟩
    have HB1 : Hid (Below w.heap.size w w1) := hb1
    have hs1 := hb1.size
    clear hb1
    go_wp2_with fail
    have hbb := below_alloc_ (below_alloc_ HB1.out (.cells #[.map cm, .slice (some ⟨g, 0, none⟩) (jour l).length c, .int .i64 sure, .int .i64 (l.length : Nat)] 28)) (.cells #[.slice (some ⟨g, 0, none⟩) (sure + keep) c, .slice ta torn.length tc] 25)
    refine (HCC.out _ (w1.heap.size + 1) (.slice (some ⟨g, 0, none⟩) (sure + keep) c) hbb (new_block_ (by simp)) (H0.out w (Below.refl _ _))).mono ?_
    rintro e w2 ⟨x, c, rfl, hv, hb2⟩
    go_wp2
    go_ret2
    exact ⟨_, rfl, hv, hb2⟩
set_option maxRecDepth 100000 in
set_option maxHeartbeats 2000000 in
theorem crash_no (b : Nat) (cm : Option Nat) (jv : Value) (sure : Nat) (keep : Int) (l : List Ent) (tv : Value) (w : World) (h : BkAt w b cm jv sure l) (hk : keep < 0 ∨ ((jour l).length : Int) - sure < keep) :
    Calls Tryz.prog 20 #[.pointer (some ⟨b, 0, none⟩), .int .i64 keep, tv] w fun e w' => e = .returned (.tuple #[.slice none 0 0, .iface 37 (.int .i64 2)]) ∧ Below w.heap.size w w' := by
  have hjl := jour_len h.ok h.few
  have hsr := h.sr
  obtain ⟨jx, jc, rfl⟩ := owns_slice h.jr
  have HR := read_any b cm _ sure l w h
  have hsz := lt_of_block h.blk
  clear h
  by_cases hk0 : keep < 0
  · clear hk
    go_enter Tryz.func20, Tryz.ntmps20
    go_wp2_with fail
    refine HR.mono ?_
    rintro e w1 ⟨rfl, hb1⟩
    go_wp2
    go_ret2
    exact ⟨rfl, below_alloc_ hb1 _⟩
  · have hk1 : ((jour l).length : Int) - sure < keep := by omega
    clear hk
    go_enter Tryz.func20, Tryz.ntmps20
    go_wp2_with fail
    refine HR.mono ?_
    rintro e w1 ⟨rfl, hb1⟩
    go_wp2
    go_ret2
    exact ⟨rfl, below_alloc_ hb1 _⟩
end Go.Proofs.YtheadpemckoljaaGreatDoor
