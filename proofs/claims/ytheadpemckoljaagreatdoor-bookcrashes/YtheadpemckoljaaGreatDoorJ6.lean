/-
  (*book.Book): Add of what may not be added, read, Get, Lines, Sync. Conditions: the book lies in memory.
-/
import Derived.Test.YtheadpemckoljaaGreatDoorJ5
namespace Go.Proofs.YtheadpemckoljaaGreatDoor
open Go.RowKit Go.Extern.Stop Go.Stop Go.Extern Go.Maps Go.WideMaps

set_option maxRecDepth 100000 in
set_option maxHeartbeats 2000000 in
theorem add_no (b : Nat) (cm : Option Nat) (jv : Value) (sure : Nat) (l : List Ent) (nm : List UInt8) (n : Int) (w : World) (h : BkAt w b cm jv sure l) (hs : nm.length ≤ maxLen) (he : addE l.length (nm, n) ≠ 0) :
    Calls Tryz.prog 8 #[.pointer (some ⟨b, 0, none⟩), .string ⟨nm.toArray⟩, .int .i64 n] w fun e w' => e = .returned (.iface 37 (.int .i64 (addE l.length (nm, n)))) ∧ Below w.heap.size w w' := by
  have HNM : Hid (Calls Tryz.prog 10 #[.string ⟨nm.toArray⟩] w fun e w2 => e = .returned (.bool (nameOk nm)) ∧ Below w.heap.size w w2) := by
    have := name_any ⟨nm.toArray⟩ w (by show nm.toArray.size ≤ maxLen; rw [List.size_toArray]; exact hs)
    have ed : (⟨nm.toArray⟩ : ByteArray).data.toList = nm := List.toList_toArray
    rw [ed] at this
    exact this
  obtain ⟨jx, jc, rfl⟩ := owns_slice h.jr
  have HB : Hid (∀ w', Below w.heap.size w w' → BkAt w' b cm (.slice jx (jour l).length jc) sure l) := fun w' hb => h.below hb
  have hfew := h.few
  have HE : Hid (addE l.length (nm, n) ≠ 0) := he
  clear h he
  cases hn : nameOk nm with
  | false =>
    rw [hn] at HNM
    have HX : Hid (addE l.length (nm, n) = 5) := by show _ = _; unfold addE; rw [if_pos hn]
    clear hn
    go_enter Tryz.func8, Tryz.ntmps8
    go_wp2_with fail
    refine HNM.out.mono ?_
    rintro e w1 ⟨rfl, hb1⟩
    go_wp2
    go_ret
    exact ⟨by rw [HX.out]; rfl, hb1⟩
  | true =>
    rw [hn] at HNM
    by_cases hr : 1 ≤ n ∧ n ≤ 1000000
    · obtain ⟨hr1, hr2⟩ := hr
      have hl : 500 ≤ l.length := by
        rcases Nat.lt_or_ge l.length 500 with h5 | h5
        · exact absurd (addE_ok ⟨hn, hr1, hr2⟩ h5) HE.out
        · exact h5
      have HX : Hid (addE l.length (nm, n) = 4) := by show _ = _; unfold addE; rw [if_neg (by simp [hn]), if_neg (fun hh => hh ⟨hr1, hr2⟩), if_pos hl]
      have hl1 : (500 : Int) ≤ l.length := by omega
      clear hn
      go_enter Tryz.func8, Tryz.ntmps8
      go_wp2_with fail
      refine HNM.out.mono ?_
      rintro e w1 ⟨rfl, hb1⟩
      obtain ⟨⟨c0, c1, c2, c3⟩, -⟩ := bk_cells (HB.out w1 hb1).blk
      go_wp2
      go_ret
      exact ⟨by rw [HX.out]; rfl, hb1⟩
    · have HX : Hid (addE l.length (nm, n) = 2) := by show _ = _; unfold addE; rw [if_neg (by simp [hn]), if_pos hr]
      clear hn
      rcases (show n < 1 ∨ (1 ≤ n ∧ 1000000 < n) by omega) with h1 | ⟨h1, h2⟩
      · clear hr
        go_enter Tryz.func8, Tryz.ntmps8
        go_wp2_with fail
        refine HNM.out.mono ?_
        rintro e w1 ⟨rfl, hb1⟩
        go_wp2
        go_ret
        exact ⟨by rw [HX.out]; rfl, hb1⟩
      · clear hr
        go_enter Tryz.func8, Tryz.ntmps8
        go_wp2_with fail
        refine HNM.out.mono ?_
        rintro e w1 ⟨rfl, hb1⟩
        go_wp2
        go_ret
        exact ⟨by rw [HX.out]; rfl, hb1⟩
theorem read_any (b : Nat) (cm : Option Nat) (jv : Value) (sure : Nat) (l : List Ent) (w : World) (h : BkAt w b cm jv sure l) :
    Calls Tryz.prog 33 #[.pointer (some ⟨b, 0, none⟩)] w fun e w' => e = .returned (.agg #[.map cm, jv, .int .i64 sure, .int .i64 (l.length : Nat)]) ∧ Below w.heap.size w w' := by
  obtain ⟨jx, jc, rfl⟩ := owns_slice h.jr
  have hbl := lt_of_block h.blk
  obtain ⟨⟨c0, c1, c2, c3⟩, -⟩ := bk_cells h.blk
  clear h
  go_enter Tryz.func33, Tryz.ntmps33
  go_wp2
  refine bodyPost_ret (v := .agg #[.map cm, .slice jx (jour l).length jc, .int .i64 sure, .int .i64 (l.length : Nat)]) (by simp [results, Tryz.results33, go_sem]) rfl ⟨rfl, ?_⟩
  repeat' (first | exact Below.refl _ _ | refine Below.drew ?_ | refine Below.alloc ?_ ?_ _ | refine Below.setCell ?_ ?_ _)
  all_goals (simp <;> omega)
theorem bk_field0 (cm : Option Nat) (jx : Option Addr) (jn jc : Nat) (su ln : Int) (W : World) : (Instr.field 28 (.agg #[.map cm, .slice jx jn jc, .int .i64 su, .int .i64 ln]) 0).run Tryz.prog W = .ok (.map cm) W := by kernel_rfl
theorem bk_field3 (cm : Option Nat) (jx : Option Addr) (jn jc : Nat) (su ln : Int) (W : World) : (Instr.field 28 (.agg #[.map cm, .slice jx jn jc, .int .i64 su, .int .i64 ln]) 3).run Tryz.prog W = .ok (.int .i64 ln) W := by kernel_rfl
theorem zeroIw (w : World) : (zeroValue 3).run Tryz.prog w = .ok (.int .i64 0) w := by kernel_rfl
theorem BkAt.look {w : World} {b : Nat} {cm : Option Nat} {jv : Value} {sure : Nat} {l : List Ent} (h : BkAt w b cm jv sure l) (s : List UInt8) (hs : s.length ≤ maxLen) :
    (Instr.lookup 26 (.map cm) (.string ⟨s.toArray⟩) false).run Tryz.prog w = .ok (.int .i64 (sumE l s)) w := by
  rcases h.mp with ⟨rfl, rfl⟩ | ⟨m, L, rfl, hm, hS⟩
  · exact Maps.look_nil false keyS Tryz.underlying26 (zeroIw w) (keyOfS hs)
  · have := hm.look hs
    rw [hS.1] at this
    exact this
set_option maxRecDepth 100000 in
theorem get_any (b : Nat) (cm : Option Nat) (jv : Value) (sure : Nat) (l : List Ent) (s : List UInt8) (w : World) (h : BkAt w b cm jv sure l) (hs : s.length ≤ maxLen) :
    Calls Tryz.prog 14 #[.pointer (some ⟨b, 0, none⟩), .string ⟨s.toArray⟩] w fun e w' => e = .returned (.int .i64 (sumE l s)) ∧ Below w.heap.size w w' := by
  obtain ⟨jx, jc, rfl⟩ := owns_slice h.jr
  have HR := read_any b cm _ sure l w h
  have HB : Hid (∀ w', Below w.heap.size w w' → BkAt w' b cm (.slice jx (jour l).length jc) sure l) := fun w' hb => h.below hb
  clear h
  go_enter Tryz.func14, Tryz.ntmps14
  go_wp2_with fail
  refine HR.mono ?_
  rintro e w1 ⟨rfl, hb1⟩
  have hlk := (HB.out w1 hb1).look s hs
  have hfd := bk_field0 cm jx (jour l).length jc sure (l.length : Nat)
  go_wp2
  go_ret
  exact ⟨rfl, hb1⟩
set_option maxRecDepth 100000 in
theorem lines_any (b : Nat) (cm : Option Nat) (jv : Value) (sure : Nat) (l : List Ent) (w : World) (h : BkAt w b cm jv sure l) :
    Calls Tryz.prog 16 #[.pointer (some ⟨b, 0, none⟩)] w fun e w' => e = .returned (.int .i64 (l.length : Nat)) ∧ Below w.heap.size w w' := by
  obtain ⟨jx, jc, rfl⟩ := owns_slice h.jr
  have HR := read_any b cm _ sure l w h
  clear h
  go_enter Tryz.func16, Tryz.ntmps16
  go_wp2_with fail
  refine HR.mono ?_
  rintro e w1 ⟨rfl, hb1⟩
  have hfd := bk_field3 cm jx (jour l).length jc sure (l.length : Nat)
  go_wp2
  go_ret
  exact ⟨rfl, hb1⟩
set_option maxRecDepth 100000 in
theorem sync_any (b : Nat) (cm : Option Nat) (jv : Value) (sure : Nat) (l : List Ent) (w : World) (h : BkAt w b cm jv sure l) :
    Calls Tryz.prog 12 #[.pointer (some ⟨b, 0, none⟩)] w fun e w' => e = .returned (.tuple #[]) ∧ BkAt w' b cm jv (jour l).length l ∧ Ot (BkS b cm jv) w w' := by
  have HR : Hid (BkAt w b cm jv sure l) := h
  obtain ⟨jx, jc, rfl⟩ := owns_slice h.jr
  obtain ⟨⟨c0, c1, c2, c3⟩, f0, f1, f2, f3⟩ := bk_cells h.blk
  clear h
  go_enter Tryz.func12, Tryz.ntmps12
  go_wp2
  go_end0
  have k := heap_setCell_here (o := 2) HR.out.blk (.int .i64 ((jour l).length : Nat))
  have ko : ∀ q, q ≠ b → (w.setCell ⟨b, 2, none⟩ (.int .i64 ((jour l).length : Nat))).heap[q]? = w.heap[q]? := fun q hq => heap_setCell_other _ ⟨b, 2, none⟩ q _ hq
  refine ⟨rfl, ⟨k, ownsRow_kept HR.out.jr fun q hq => ko q fun e => jr_ne HR.out.jr HR.out.blk (by decide) (e ▸ hq), HR.out.ok, HR.out.few, Nat.le_refl _, ?_⟩, (Ot.refl _ _).setCell (Or.inl (Or.inl rfl)) _⟩
  rcases HR.out.mp with h1 | ⟨m, L, h1, h2, h3⟩
  · exact Or.inl h1
  · exact Or.inr ⟨m, L, h1, h2.block (ko m (BkAt.map_ne h2 HR.out.blk)), h3⟩
end Go.Proofs.YtheadpemckoljaaGreatDoor
