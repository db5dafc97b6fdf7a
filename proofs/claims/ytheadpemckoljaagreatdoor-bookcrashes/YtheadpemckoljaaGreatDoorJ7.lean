/-
  slices.Grow of nothing, slices.Concat of two rows of bytes; (*book.Book).Crash. Conditions: the book lies in memory; what is torn does too.
-/
import Derived.Test.YtheadpemckoljaaGreatDoorJ6
import Derived.Lib.AppendZeros
import Derived.Laws.AppendOwnNone
namespace Go.Proofs.YtheadpemckoljaaGreatDoor
open Go.RowKit Go.Extern.Stop Go.Stop Go.Extern Go.Maps Go.WideMaps

/-- Bytes that lie in memory, whatever slice holds them. -/
def BtAt (w : World) (v : Value) (l : List UInt8) : Prop := (l = [] ∧ (v = .slice none 0 0 ∨ ∃ a c, v = .slice (some a) 0 c)) ∨ ∃ b o c, v = .slice (some ⟨b, o, none⟩) l.length c ∧ ∀ (j : Nat) x, l[j]? = some x → w.cell? ⟨b, o + j, none⟩ = some (.int .u8 (x.toNat : Int))
theorem BtAt.slice {w : World} {v : Value} {l : List UInt8} (h : BtAt w v l) : ∃ a c, v = .slice a l.length c := by
  rcases h with ⟨rfl, rfl | ⟨a, c, rfl⟩⟩ | ⟨b, o, c, rfl, _⟩
  · exact ⟨_, _, rfl⟩
  · exact ⟨_, _, rfl⟩
  · exact ⟨_, _, rfl⟩
theorem BtAt.below {w w' : World} {v : Value} {l : List UInt8} (h : BtAt w v l) (hb : Below w.heap.size w w') : BtAt w' v l := by
  rcases h with h | ⟨b, o, c, h1, h2⟩
  · exact Or.inl h
  · exact Or.inr ⟨b, o, c, h1, fun j x hx => (hb.cell (p := ⟨b, o + j, none⟩) (World.block_lt_of_cell? w _ (h2 j x hx))).trans (h2 j x hx)⟩
theorem byteCells_get {l : List UInt8} {j : Nat} {u : Value} (h : (Lib.byteCells l)[j]? = some u) : ∃ x, l[j]? = some x ∧ u = .int .u8 (x.toNat : Int) := by
  unfold Lib.byteCells at h
  rw [List.getElem?_map] at h
  obtain ⟨x, hx, rfl⟩ := Option.map_eq_some_iff.1 h
  exact ⟨x, hx, rfl⟩
theorem owns_cells {w : World} {base n k : Nat} {e : TypeId} {v : Value} {xs : List Value} (h : w.ownsRow base e k v n xs) : (v = .slice none 0 0 ∧ n = 0) ∨ ∃ g c, v = .slice (some ⟨g, 0, none⟩) n c ∧ ∀ j u, xs[j]? = some u → w.cell? ⟨g, j, none⟩ = some u := by
  rcases h.2 with h1 | ⟨g, cap, cur, rfl, hg, hb, h1, h2, h3, h4⟩
  · exact Or.inl h1
  · refine Or.inr ⟨g, cap, rfl, fun j u hj => ?_⟩
    simp only [World.cell?, hb]
    rw [← h4, List.getElem?_take] at hj
    split at hj
    · simpa using hj
    · simp at hj
/-- A row of bytes of one's own are such bytes. -/
theorem bt_of_owns {w : World} {base n : Nat} {e : TypeId} {v : Value} {l : List UInt8} (h : w.ownsRow base e 1 v n (Lib.byteCells l)) : BtAt w v l := by
  have hn : n = l.length := by have := h.1; simpa [Lib.byteCells] using this.symm
  subst hn
  rcases owns_cells h with ⟨rfl, h0⟩ | ⟨g, c, rfl, hc⟩
  · exact Or.inl ⟨List.length_eq_zero_iff.1 h0, Or.inl rfl⟩
  · refine Or.inr ⟨g, 0, c, rfl, fun j x hx => ?_⟩
    rw [Nat.zero_add]
    exact hc j _ (by unfold Lib.byteCells; rw [List.getElem?_map, hx]; rfl)
theorem run_append_bt (w : World) (base : Nat) (ty : TypeId) (v : Value) (n : Nat) (xs : List Value) (hown : w.ownsRow base 5 1 v n xs) (v2 : Value) (l2 : List UInt8) (h2 : BtAt w v2 l2) (hb : n + l2.length ≤ 1000000) (hbase : base ≤ w.heap.size) :
    ∃ v' w', (Builtin.append_ #[25, 25] ty #[v, v2]).run Tryz.prog w = .ok v' w' ∧ w'.ownsRow base 5 1 v' (n + l2.length) (xs ++ Lib.byteCells l2) ∧ w.grownBy w' v.ownBlock := by
  obtain ⟨i, hi, hz, hs, hy⟩ := info3 infoByte
  rcases h2 with ⟨rfl, rfl | ⟨a, c, rfl⟩⟩ | ⟨b, o, c, rfl, hc⟩
  · exact ⟨v, w, run_append_owned_none (P := Tryz.prog) (w := w) base 25 ty 5 i 1 Tryz.underlying25 hi v n xs hown, by simpa [Lib.byteCells] using hown, ⟨rfl, rfl, rfl, Nat.le_refl _, fun _ _ _ => rfl⟩⟩
  · obtain ⟨v', w', hr, h3, h4, _⟩ := run_append_own (P := Tryz.prog) w base 25 ty 5 i (.int .u8 0) 1 1 Tryz.underlying25 hi hz hs hy rfl (by decide) v n xs hown a 0 c [] rfl (by simp) (by simp) (by unfold maxLen; omega) (by omega) hbase
    exact ⟨v', w', hr, by simpa [Lib.byteCells] using h3, h4⟩
  · obtain ⟨v', w', hr, h3, h4, _⟩ := run_append_own (P := Tryz.prog) w base 25 ty 5 i (.int .u8 0) 1 1 Tryz.underlying25 hi hz hs hy rfl (by decide) v n xs hown ⟨b, o, none⟩ l2.length c (Lib.byteCells l2) (by simp [Lib.byteCells]) (fun j u hj => by
      obtain ⟨x, hx, rfl⟩ := byteCells_get hj
      rw [Go.WideShapes.add_plain]
      exact hc j x hx) (fun u hu => by simp only [Lib.byteCells, List.mem_map] at hu; obtain ⟨x, _, rfl⟩ := hu; rfl) (by unfold maxLen; omega) (by omega) hbase
    exact ⟨v', w', hr, h3, h4⟩
set_option maxRecDepth 100000 in
set_option maxHeartbeats 2000000 in
theorem grow_nil (n : Nat) (w : World) (hn : n ≤ 1000000) :
    Calls Tryz.prog 49 #[.slice none 0 0, .int .i64 n] w fun e w' => ∃ v, e = .returned v ∧ w'.ownsRow w.heap.size 5 1 v 0 [] ∧ Below w.heap.size w w' := by
  by_cases h0 : n = 0
  · subst h0
    go_enter Tryz.func49, Tryz.ntmps49
    go_wp2
    go_ret
    exact ⟨_, rfl, World.ownsRow_nil _ _ _ _, Below.refl _ _⟩
  · obtain ⟨i, hi, hz, hs, hy⟩ := info3 infoByte
    have hr : ∀ ty, (Builtin.append_ #[25, 3] ty #[.slice none 0 0, .int .i64 (n : Int)]).run Tryz.prog w = .ok (.slice (some ⟨w.heap.size, 0, none⟩) n (grownCap w n 0 5)) (w.drew.alloc (.cells (Builtin.zeroCells (Value.int .u8 0).cells n ++ Builtin.zeroCells (Value.int .u8 0).cells (grownCap w n 0 5 - n)) 5)) := fun ty =>
      Lib.run_append_nil_zeros (P := Tryz.prog) w 25 3 ty 5 i (.int .u8 0) .i64 .i64 Tryz.underlying25 Tryz.underlying3 hi hz n (by omega) (by rw [hs]; decide) (by omega) (by rw [hy]; omega)
    have hge := grownCap_ge w n 0 5
    have hle := grownCap_le_maxLen w n 0 5 (by unfold maxLen; omega)
    have hnk := new_block w.drew (.cells (Builtin.zeroCells (Value.int .u8 0).cells n ++ Builtin.zeroCells (Value.int .u8 0).cells (grownCap w n 0 5 - n)) 5)
    have HB : Hid (Below w.heap.size w (w.drew.alloc (.cells (Builtin.zeroCells (Value.int .u8 0).cells n ++ Builtin.zeroCells (Value.int .u8 0).cells (grownCap w n 0 5 - n)) 5))) := (Below.refl _ _).drew.alloc (Nat.le_refl _) _
    have hsz : (Builtin.zeroCells (Value.int .u8 0).cells n ++ Builtin.zeroCells (Value.int .u8 0).cells (grownCap w n 0 5 - n)).size = grownCap w n 0 5 := by
      have hz1 : (Value.int IntKind.u8 0).cells.size = 1 := rfl
      simp only [Array.size_append, size_zeroCells, hz1]
      omega
    generalize Builtin.zeroCells (Value.int .u8 0).cells n ++ Builtin.zeroCells (Value.int .u8 0).cells (grownCap w n 0 5 - n) = Z at *
    generalize grownCap w n 0 5 = cp at *
    have HO : Hid ((w.drew.alloc (.cells Z 5)).ownsRow w.heap.size 5 1 (.slice (some ⟨w.heap.size, 0, none⟩) 0 cp) 0 []) :=
      ⟨rfl, Or.inr ⟨w.heap.size, cp, Z, rfl, Nat.le_refl _, hnk, Nat.zero_le _, hle, by rw [hsz, Nat.mul_one], by simp⟩⟩
    have hw1 : (0 : Int) < n := by omega
    have hw2 : ¬ (n : Int) < 0 := by omega
    clear hnk hsz hle
    go_enter Tryz.func49, Tryz.ntmps49
    go_wp2_with (at_builtin; refine Lib.wpList_append_run _ rfl _ _ _ _ rfl _ _ rfl rfl _ _ (hr _) ?_)
    go_ret
    exact ⟨_, rfl, HO.out, HB.out⟩
theorem two_cells {w : World} {A : Nat} {x0 x1 : Value} {T : TypeId} (h : w.heap[A]? = some (.cells #[x0, x1] T (0, 0))) : w.cell? ⟨A, 0, none⟩ = some x0 ∧ w.cell? ⟨A, 1, none⟩ = some x1 := by
  constructor
  all_goals simp [World.cell?, h]
set_option maxRecDepth 100000 in
set_option maxHeartbeats 4000000 in
theorem concat_any (v1 v2 : Value) (l1 l2 : List UInt8) (A : Nat) (w : World) (h1 : BtAt w v1 l1) (h2 : BtAt w v2 l2) (hA : w.heap[A]? = some (.cells #[v1, v2] 25 (0, 0))) (hl : l1.length + l2.length ≤ 500000) :
    Calls Tryz.prog 36 #[.slice (some ⟨A, 0, none⟩) 2 2] w fun e w' => ∃ v, e = .returned v ∧ w'.ownsRow w.heap.size 5 1 v (l1.length + l2.length) (Lib.byteCells (l1 ++ l2)) ∧ Below w.heap.size w w' := by
  have H1 : Hid (∀ w', Below w.heap.size w w' → BtAt w' v1 l1) := fun w' h => h1.below h
  have H2 : Hid (∀ w', Below w.heap.size w w' → BtAt w' v2 l2) := fun w' h => h2.below h
  have HA : Hid (∀ w', Below w.heap.size w w' → w'.heap[A]? = some (.cells #[v1, v2] 25 (0, 0))) := fun w' h => (h.block A (lt_of_block hA)).trans hA
  obtain ⟨a1, k1, rfl⟩ := h1.slice
  obtain ⟨a2, k2, rfl⟩ := h2.slice
  obtain ⟨c0, c1⟩ := two_cells hA
  clear h1 h2 hA
  go_enter Tryz.func36, Tryz.ntmps36
  go_wp2
  refine wp_loop_rounds 3 ?_
  rw [rounds_succ]
  go_wp2
  rw [rounds_succ]
  go_wp2
  rw [rounds_succ]
  go_wp2_with fail
  have HGR := grow_nil (l1.length + l2.length) w (by omega)
  rw [Int.natCast_add] at HGR
  refine HGR.mono ?_
  rintro e w1 ⟨v, rfl, hv, hb1⟩
  obtain ⟨d0, d1⟩ := two_cells (HA.out w1 hb1)
  obtain ⟨vv, w2, hr2, hv2, hg2⟩ := run_append_bt w1 w.heap.size 25 v 0 [] hv _ l1 (H1.out w1 hb1) (by omega) hb1.size
  rw [Nat.zero_add, List.nil_append] at hv2
  have hb2 : Below w.heap.size w w2 := hb1.grown hg2 hb1.size (fun k hk => by
    rcases hv.2 with ⟨e, _⟩ | ⟨g, c, cu, e, hg, _⟩
    · rw [e] at hk; simp [Value.ownBlock] at hk
    · rw [e] at hk; simp only [Value.ownBlock, Option.some.injEq] at hk; omega)
  obtain ⟨e0, e1⟩ := two_cells (HA.out w2 hb2)
  obtain ⟨v3, w3, hr3, hv3, hg3⟩ := run_append_bt w2 w.heap.size 25 vv _ _ hv2 _ l2 (H2.out w2 hb2) (by omega) hb2.size
  have HB3 : Hid (Below w.heap.size w w3) := hb2.grown hg3 hb2.size (fun k hk => by
    rcases hv2.2 with ⟨e, _⟩ | ⟨g, c, cu, e, hg, _⟩
    · rw [e] at hk; simp [Value.ownBlock] at hk
    · rw [e] at hk; simp only [Value.ownBlock, Option.some.injEq] at hk; omega)
  have HV3 : Hid (w3.ownsRow w.heap.size 5 1 v3 (l1.length + l2.length) (Lib.byteCells (l1 ++ l2))) := by
    have e : Lib.byteCells (l1 ++ l2) = Lib.byteCells l1 ++ Lib.byteCells l2 := by simp [Lib.byteCells]
    rw [e]
    exact hv3
  obtain ⟨x0, n0, rfl⟩ := owns_slice hv
  obtain ⟨x2, n2, rfl⟩ := owns_slice hv2
  obtain ⟨x3, n3, rfl⟩ := owns_slice hv3
  have HR2 : Hid ((Builtin.append_ #[25, 25] 25 #[.slice x0 0 n0, .slice a1 l1.length k1]).run Tryz.prog w1 = .ok (.slice x2 l1.length n2) w2) := hr2
  have HR3 : Hid ((Builtin.append_ #[25, 25] 25 #[.slice x2 l1.length n2, .slice a2 l2.length k2]).run Tryz.prog w2 = .ok (.slice x3 (l1.length + l2.length) n3) w3) := hr3
  clear hr2 hr3 hv hv2 hv3 hg2 hg3 hb1 hb2 HGR
  go_wp2
  refine wp_loop_rounds 3 ?_
  rw [rounds_succ]
  go_wp2_with (at_builtin; refine Lib.wpList_append_run _ rfl _ _ _ _ rfl _ _ rfl rfl _ _ HR2.out ?_)
  rw [rounds_succ]
  go_wp2_with (at_builtin; refine Lib.wpList_append_run _ rfl _ _ _ _ rfl _ _ rfl rfl _ _ HR3.out ?_)
  rw [rounds_succ]
  go_wp2
  go_ret
  exact ⟨_, rfl, HV3.out, HB3.out⟩
end Go.Proofs.YtheadpemckoljaaGreatDoor
