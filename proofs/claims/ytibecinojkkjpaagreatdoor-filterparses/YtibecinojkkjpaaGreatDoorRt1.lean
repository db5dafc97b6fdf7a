/-
  The reference's Told, of one number. Conditions: the number lies in memory; what the program lays is laid.
-/
import Derived.Test.YtibecinojkkjpaaGreatDoorFlf
namespace Go.Proofs.YtibecinojkkjpaaGreatDoor
open Go.RowKit Go.Extern.Stop Go.Stop Go.Extern

theorem join_one (x sep : List UInt8) : Lib.join [x] sep = x := by simp [Lib.join]
set_option maxRecDepth 20000 in
set_option maxHeartbeats 4000000 in
theorem rtold_any (n : Int) (b : Nat) (w : World) (hc : w.cell? ⟨b, 0, none⟩ = some (.int .i64 n)) (h0 : 0 ≤ n) (h1 : n ≤ 1000000000) (hG : GlobF w) :
    Calls Tryz.prog 21 #[.slice (some ⟨b, 0, none⟩) 1 1] w fun e w' => e = .returned (.string ⟨(Lib.itoa n).toArray⟩) ∧ Below w.heap.size w w' := by
  have HIT : Hid (∀ w2, Below w.heap.size w w2 → Calls Tryz.prog 34 #[.int .i64 n] w2 fun e w' => e = .returned (.string ⟨(Lib.itoa n).toArray⟩) ∧ Below w2.heap.size w2 w') := fun w2 h => fitoa_any n w2 h0 h1 (hG.below h)
  have hl := itoa_len h0 h1
  have HCE : Hid (∀ w2, Below w.heap.size w w2 → w2.cell? ⟨b, 0 + 0, none⟩ = some (.int .i64 n)) := fun w2 h => (h.cell (p := ⟨b, 0, none⟩) (cell_lt hc)).trans hc
  obtain ⟨i0, hi, hz0, hz1, hz2⟩ := info_parts infoString
  generalize Lib.itoa n = it at *
  have HJN : Hid (∀ pv wr, GtR w pv [it] wr → Calls Tryz.prog 35 #[pv, .string ⟨#[32]⟩] wr fun e w' => e = .returned (.string ⟨it.toArray⟩) ∧ Below wr.heap.size wr w') := by
    intro pv wr h
    obtain ⟨b, off, cap, rfl, hn, _, hlt, hcs⟩ := h.seg.some (by simp)
    have := fjoin_any b off cap [it] [32] wr (fun j y hj => hcs j (strB y) (by rw [List.getElem?_map, hj]; rfl)) hlt hn (by simp) (by rw [join_one]; omega)
    rw [join_one] at this
    exact this
  clear hG h0 h1 hc
  go_enter Tryz.func21, Tryz.ntmps21
  go_wp2_with fail
  go_loopg [8, 3, 5] 1 (fun g v8 pv _ wx => ∃ i : Nat, i + g = 1 ∧ v8 = .int .i64 i ∧ Hid (GtR w pv ([it].take i) wx))
  case atStart => exact ⟨0, by omega, rfl, ⟨Seg.nil _ _ _, fun j hj => by simp [Value.ownBlock] at hj, Below.refl _ _⟩⟩
  case round =>
    obtain ⟨i, hig, rfl, HGR⟩ := hrel
    rcases (by omega : i = 0 ∨ i = 1) with rfl | rfl
    · have HG0 : Hid (GtR w u3 [] wr) := HGR.out
      have q0 := HCE.out wr HG0.out.bel
      have HC := HIT.out wr HG0.out.bel
      go_wp2_with fail
      refine HC.mono ?_
      rintro e w2 ⟨rfl, hb2⟩
      have HG2 : Hid (GtR w u3 [] w2) := HG0.out.belowed hb2
      have HS2 : Hid (Seg w2 9 1 u3 0 []) := HG2.out.seg
      clear hb2 HC
      go_wp2_with (at_builtin; refine wpList_append_seg _ rfl (.tmp 12) (.tmp 15) 64 rfl 9 i0 _ 1 16 Tryz.underlying64 hi hz0 hz1 hz2 rfl (by decide) _ _ _ rfl (HS2.out.below (by repeat' (first | with_reducible exact Below.refl _ _ | with_reducible refine Below.drew ?_ | with_reducible refine below_alloc_ ?_ _))) _ 1 1 _ rfl rfl (news_of (new_block_ (by simp))) (by simp [Value.oneCell']) (by decide) (by unfold maxLen; omega) (by omega) _ rfl ?_; intro g3 goff gcap w3 hs3 hg3 ha3 hl3)
      go_roundg (gk - 1)
      case measure => omega
      case rel => exact ⟨1, by omega, rfl, HG2.out.step (s := it) (g := g3) (goff := goff) (gcap := gcap) hs3 hg3 ha3⟩
    · have HG1 : Hid (GtR w u3 [it] wr) := HGR.out
      have HB : Hid (Below w.heap.size w wr) := HG1.out.bel
      obtain ⟨py, pc, e2, -⟩ := seg_slice HG1.out.seg
      have HJ := HJN.out _ _ HG1.out
      have e3 : u3 = .slice py 1 pc := e2
      clear HGR HG1 e2
      subst e3
      go_wp2_with fail
      refine HJ.mono ?_
      rintro e w2 ⟨rfl, hb2⟩
      clear HJ
      go_wp2
      go_ret
      exact ⟨rfl, HB.out.trans (hb2.mono HB.out.size)⟩
end Go.Proofs.YtibecinojkkjpaaGreatDoor
