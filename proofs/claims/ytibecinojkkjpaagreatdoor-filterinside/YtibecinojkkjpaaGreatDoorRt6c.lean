/-
  The reference's Inside, of whatever filter. Conditions: the filter lies in memory, and is not too great.
-/
import Derived.Test.YtibecinojkkjpaaGreatDoorRt6a
import Derived.Test.YtibecinojkkjpaaGreatDoorRt6b
namespace Go.Proofs.YtibecinojkkjpaaGreatDoor
open Go.RowKit Go.Extern.Stop Go.Stop Go.Extern

set_option maxRecDepth 100000 in
theorem ri_not {D b k g off cap : Nat} {S : Nat → Prop} {f lo hi : Int} {t : Ft} (no : Bool) (w : World) (hb : w.heap[b]? = some (.cells #[.string ⟨#[110, 111, 116]⟩, .int .i64 f, .int .i64 lo, .int .i64 hi, .slice (some ⟨g, off, none⟩) 1 cap] 63 (0, 0))) (hk : w.cell? ⟨g, off, none⟩ = some (.pointer (some ⟨k, 0, none⟩)))
    (hc : Calls Tryz.prog 10 #[.pointer (some ⟨k, 0, none⟩), .bool (!no)] w fun e w' => RiP S w D t e w') :
    Calls Tryz.prog 10 #[.pointer (some ⟨b, 0, none⟩), .bool no] w fun e w' => RiP S w (D + 1) t e w' := by
  obtain ⟨c0, c4, -, -⟩ := cells5i hb
  have hbl := lt_of_block hb
  have hgl := cell_lt hk
  go_enter Tryz.func10, Tryz.ntmps10
  go_wp2_with fail
  refine hc.mono ?_
  rintro e w2 ⟨x, rfl, h1, h2⟩
  have H1 : Hid (RfAt w2 (fun j => S j ∨ w.heap.size ≤ j) D t x) := h1
  clear h1
  go_wp2
  go_ret
  exact ⟨x, rfl, rf_up H1.out, h2⟩
theorem rinside_at : ∀ (d : Nat) (t : Ft) (b : Nat) (no : Bool) (w : World) (S : Nat → Prop), RfAt w S d t b → (∀ k, S k → k < w.heap.size) → nd d t ≤ 100000 →
    Calls Tryz.prog 10 #[.pointer (some ⟨b, 0, none⟩), .bool no] w fun e w' => RiP S w (d + 1) (turn d no t) e w'
  | 0, _, _, _, _, _, h, _, _ => h.elim
  | d + 1, t, b, no, w, S, h, hS, hn => by
    have hh := h
    obtain ⟨hok, hSb, sl, ks, hblk, hsl, hseg, hl, hel⟩ := h
    rcases hok with h | ⟨hk, hf, h0, h1, h2⟩ | ⟨hk, hf, h0, h1⟩ | ⟨y, h, hy⟩ | ⟨k, l, h, hk, hyl⟩
    · subst h
      exact ri_leaf no w hh (by decide) hblk rfl rfl rfl
    · rw [hk] at hblk
      exact ri_leaf no w hh (by omega) hblk rfl rfl rfl
    · rw [hk] at hblk
      exact ri_leaf no w hh (by omega) hblk rfl rfl rfl
    · subst h
      rw [nd_not] at hn
      obtain ⟨g, off, cap, rfl, -, -, hlt, hcs⟩ := hseg.some (by simp [notT])
      have hlk : ks.length = 1 := hl
      obtain ⟨k, rfl⟩ : ∃ k, ks = [k] := by
        match ks, hlk with
        | [k], _ => exact ⟨k, rfl⟩
      have hc0 : w.cell? ⟨g, off, none⟩ = some (.pointer (some ⟨k, 0, none⟩)) := hcs 0 _ rfl
      rw [turn_not]
      exact ri_not no w hblk hc0 (rinside_at d y k (!no) w S (hel 0 y k rfl rfl) hS (by omega))
    · subst h
      rw [nd_lst _ _ hk] at hn
      have hnl := nd_len (d := d) l
      obtain ⟨y, c, hslv, hcs⟩ : ∃ y c, sl = .slice y l.length c ∧ ∀ (i : Nat) u, (ks.map ptrV)[i]? = some u → ∃ g off, y = some ⟨g, off, none⟩ ∧ w.cell? ⟨g, off + i, none⟩ = some u ∧ g < w.heap.size := seg_slice hseg
      subst hslv
      have hE : ∀ i, i < l.length → ∃ (t : Ft) (g off k : Nat), l[i]? = some t ∧ y = some ⟨g, off, none⟩ ∧ (∀ w2, Below w.heap.size w w2 → w2.cell? ⟨g, off + i, none⟩ = some (.pointer (some ⟨k, 0, none⟩))) ∧ ∀ w2, Below w.heap.size w w2 → Calls Tryz.prog 10 #[.pointer (some ⟨k, 0, none⟩), .bool no] w2 fun e w' => RiP S w2 (d + 1) (turn d no t) e w' := by
        intro i hi
        obtain ⟨t, ht⟩ : ∃ t, l[i]? = some t := ⟨_, List.getElem?_eq_getElem hi⟩
        have hl' : ks.length = l.length := hl
        obtain ⟨k, hk⟩ : ∃ k, ks[i]? = some k := ⟨_, List.getElem?_eq_getElem (by omega)⟩
        obtain ⟨g, off, e1, e2, e3⟩ := hcs i (ptrV k) (by rw [List.getElem?_map, hk]; rfl)
        refine ⟨t, g, off, k, ht, e1, fun w2 h => (h.cell (p := ⟨g, off + i, none⟩) e3).trans e2, fun w2 h => rinside_at d t k no w2 S ((hel i t k ht hk).below h) (fun j hj => Nat.lt_of_lt_of_le (hS j hj) h.size) (by have := nd_el (d := d) l t (List.mem_of_getElem? ht); omega)⟩
      rw [turn_lst _ _ _ hk]
      have hx : l.length ≤ 100000 := by omega
      rcases hk with rfl | rfl <;> cases no
      · exact ri_lst_false4 w hblk hx hS hE
      · exact ri_lst_true4 w hblk hx hS hE
      · exact ri_lst_false5 w hblk hx hS hE
      · exact ri_lst_true5 w hblk hx hS hE
end Go.Proofs.YtibecinojkkjpaaGreatDoor
