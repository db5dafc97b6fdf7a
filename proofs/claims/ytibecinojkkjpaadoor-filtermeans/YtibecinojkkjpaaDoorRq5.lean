/-
  The reference's Meant, of whatever filter. Conditions: the filter lies in memory.
-/
import Derived.Test.YtibecinojkkjpaaDoorRp4
import Derived.Test.YtibecinojkkjpaaDoorRq2
import Derived.Test.YtibecinojkkjpaaDoorRq3
import Derived.Test.YtibecinojkkjpaaDoorRq4
namespace Go.Proofs.YtibecinojkkjpaaDoor
open Go.RowKit Go.Extern.Stop Go.Stop Go.Extern

theorem rmeant_at (x : It) (w : World) (S : Nat → Prop) : ∀ (d : Nat) (t : Ft) (b : Nat), RfAt w S d t b → nd d t ≤ 100000 → ∀ w1, Below w.heap.size w w1 →
    Calls Tryd.prog 7 #[.pointer (some ⟨b, 0, none⟩), .agg #[.int .i64 x.a, .int .i64 x.l, .int .i64 x.f, .int .i64 x.b, .int .i64 x.m]] w1 fun e w' => e = .returned (.bool (means x d t)) ∧ Below w1.heap.size w1 w'
  | 0, _, _, h, _, _, _ => h.elim
  | d + 1, t, b, h, hn, w1, hb => by
    obtain ⟨hok, hS, sl, ks, hblk, hsl, hseg, hl, hel⟩ := h
    have hb1 := (hb.block b (lt_of_block hblk)).trans hblk
    rcases hok with h | ⟨hk, hf, h0, h1, h2⟩ | ⟨hk, hf, h0, h1⟩ | ⟨y, h, hy⟩ | ⟨k, l, h, hk, hyl⟩
    · subst h
      exact rm_any x b 0 (by decide) 0 0 sl w1 hb1
    · rw [hk] at hb1
      have e : means x (d + 1) t = (decide (t.lo ≤ fld x t.f) && decide (fld x t.f ≤ t.hi)) := by simp [means, hk]
      rw [e]
      exact rm_test x b t.f hf t.lo t.hi sl w1 hb1
    · rw [hk] at hb1
      obtain ⟨n, hne⟩ := Int.eq_ofNat_of_zero_le h0
      have e : means x (d + 1) t = (bandI (fld x t.f) t.lo == t.lo) := by simp [means, hk]
      rw [e]
      rw [hne] at hb1 ⊢
      exact rm_has x b t.f hf n (by omega) n sl w1 hb1
    · subst h
      rw [nd_not] at hn
      obtain ⟨g, off, cap, rfl, -, -, hlt, hcs⟩ := hseg.some (by simp [notT])
      have hlk : ks.length = 1 := hl
      obtain ⟨k, rfl⟩ : ∃ k, ks = [k] := by
        match ks, hlk with
        | [k], _ => exact ⟨k, rfl⟩
      have hc0 : w.cell? ⟨g, off, none⟩ = some (.pointer (some ⟨k, 0, none⟩)) := hcs 0 _ rfl
      rw [means_not]
      exact rm_not x b 0 (by decide) 0 0 _ w1 hb1 rfl ((hb.cell (p := ⟨g, off, none⟩) (cell_lt1 hc0)).trans hc0) (fun w2 h2 => rmeant_at x w S d y k (hel 0 y k rfl rfl) (by omega) w2 (hb.trans (h2.mono hb.size)))
    · subst h
      rw [nd_lst _ _ hk] at hn
      have hnl := nd_len (d := d) l
      have hm : l.length ≤ maxLen := by unfold maxLen; omega
      obtain ⟨y, c, hslv, hcs⟩ : ∃ y c, sl = .slice y l.length c ∧ ∀ (i : Nat) u, (ks.map ptrV)[i]? = some u → ∃ g off, y = some ⟨g, off, none⟩ ∧ w.cell? ⟨g, off + i, none⟩ = some u ∧ g < w.heap.size := by
        have hform := hseg.form
        rcases hform with ⟨h1, h2, h3⟩ | ⟨bb, off, cap, h1, h2, h3, h4, h5⟩
        · exact ⟨none, 0, by rw [h1, h2], fun i u hi => by rw [h3] at hi; simp at hi⟩
        · exact ⟨_, _, h1, fun i u hi => ⟨bb, off, rfl, h5 i u hi, h4⟩⟩
      have hE : ∀ i, i < l.length → ∃ (t : Ft) (g off k : Nat), l[i]? = some t ∧ y = some ⟨g, off, none⟩ ∧ (∀ w2, Below w1.heap.size w1 w2 → w2.cell? ⟨g, off + i, none⟩ = some (.pointer (some ⟨k, 0, none⟩))) ∧ ∀ w2, Below w1.heap.size w1 w2 → Calls Tryd.prog 7 #[.pointer (some ⟨k, 0, none⟩), .agg #[.int .i64 x.a, .int .i64 x.l, .int .i64 x.f, .int .i64 x.b, .int .i64 x.m]] w2 fun e w' => e = .returned (.bool (means x d t)) ∧ Below w2.heap.size w2 w' := by
        intro i hi
        obtain ⟨t, ht⟩ : ∃ t, l[i]? = some t := ⟨_, List.getElem?_eq_getElem hi⟩
        have hl' : ks.length = l.length := hl
        obtain ⟨k, hk⟩ : ∃ k, ks[i]? = some k := ⟨_, List.getElem?_eq_getElem (by omega)⟩
        obtain ⟨g, off, e1, e2, e3⟩ := hcs i (ptrV k) (by rw [List.getElem?_map, hk]; rfl)
        refine ⟨t, g, off, k, ht, e1, fun w2 h => ?_, fun w2 h => rmeant_at x w S d t k (hel i t k ht hk) (by have := nd_el (d := d) l t (List.mem_of_getElem? ht); omega) w2 (hb.trans (h.mono hb.size))⟩
        have hbb := hb.trans (h.mono hb.size)
        rw [hbb.cell (p := ⟨g, off + i, none⟩) e3]; exact e2
      rcases hk with rfl | rfl
      · have e : means x (d + 1) ⟨4, 0, 0, 0, l⟩ = l.all (means x d) := rfl
        rw [e]
        exact rm_and x b 0 (by decide) 0 0 sl w1 hb1 hslv hm hE
      · have e : means x (d + 1) ⟨5, 0, 0, 0, l⟩ = l.any (means x d) := rfl
        rw [e]
        exact rm_or x b 0 (by decide) 0 0 sl w1 hb1 hslv hm hE
end Go.Proofs.YtibecinojkkjpaaDoor
