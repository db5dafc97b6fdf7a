/-
  package filter: how filters are written. Conditions: the filter lies in memory, and is not too great; what the program lays is laid.
-/
import Derived.Test.YtibecinojkkjpaaGreatDoorFle
namespace Go.Proofs.YtibecinojkkjpaaGreatDoor
open Go.RowKit Go.Extern.Stop Go.Stop Go.Extern

theorem infoString : (Tryz.prog.info? 9).map (fun i => (i.zero, i.size, i.bytes)) = some (some (.string ⟨#[]⟩), 1, 16) := by kernel_rfl
def strB (l : List UInt8) : Value := .string ⟨l.toArray⟩
/-- So many are written. -/
structure GtR (w : World) (pv : Value) (xs : List (List UInt8)) (wr : World) : Prop where
  seg : Seg wr 9 1 pv xs.length (xs.map strB)
  own : ∀ j, pv.ownBlock = some j → w.heap.size ≤ j
  bel : Below w.heap.size w wr
theorem GtR.belowed {w wr w2 : World} {pv : Value} {xs : List (List UInt8)} (h : GtR w pv xs wr) (hb : Below wr.heap.size wr w2) : GtR w pv xs w2 := ⟨h.seg.below hb, h.own, h.bel.trans (hb.mono h.bel.size)⟩
theorem GtR.step {w w2 w3 : World} {pv : Value} {xs : List (List UInt8)} (h1 : GtR w pv xs w2) {g goff gcap : Nat} {s : List UInt8} {o : Obj}
    (hsg : Seg w3 9 1 (.slice (some ⟨g, goff, none⟩) (xs.length + 1) gcap) (xs.length + 1) (xs.map strB ++ [strB s])) (hg : (w2.alloc o).grownBy w3 pv.ownBlock) (ha : pv.ownBlock = some g ∨ (w2.alloc o).heap.size ≤ g) :
    GtR w (.slice (some ⟨g, goff, none⟩) (xs.length + 1) gcap) (xs ++ [s]) w3 := by
  have hot : Ot (fun _ => False) w w3 := ((Ot.of_below h1.bel).alloc _).grown hg (fun k hk => Or.inr (h1.own k hk))
  refine ⟨by simpa using hsg, ?_, hot.below (Nat.le_refl _) (fun k hk => hk.elim)⟩
  intro j hj
  simp only [Value.ownBlock, Option.some.injEq] at hj
  subst hj
  have := h1.bel.size
  rcases ha with ha | ha
  · exact h1.own _ ha
  · simp at ha; omega
theorem sep_eq (word : List UInt8) : ((⟨#[32]⟩ : ByteArray) ++ ⟨word.toArray⟩) ++ ⟨#[32]⟩ = ⟨([32] ++ word ++ [32]).toArray⟩ := by rw [← app_ba, ← app_ba]
/-- strings.Join of what was written. -/
theorem GtR.joins {w wr : World} {pv : Value} {xs : List (List UInt8)} (h : GtR w pv xs wr) (word : List UInt8) (hx : xs.length ≤ 100000) (hl : (Lib.join xs ([32] ++ word ++ [32])).length ≤ 100000000) :
    Calls Tryz.prog 35 #[pv, .string (((⟨#[32]⟩ : ByteArray) ++ ⟨word.toArray⟩) ++ ⟨#[32]⟩)] wr fun e w' => e = .returned (.string ⟨(Lib.join xs ([32] ++ word ++ [32])).toArray⟩) ∧ Below wr.heap.size wr w' := by
  rw [sep_eq]
  cases xs with
  | nil =>
    rcases h.seg.form with ⟨e, _⟩ | ⟨b, off, cap, e, _⟩
    · subst e
      refine (Tryz.strings_Join_none none 0 _ wr).mono ?_
      rintro e w' ⟨rfl, rfl⟩
      exact ⟨rfl, Below.refl _ _⟩
    · subst e
      refine (Tryz.strings_Join_none _ cap _ wr).mono ?_
      rintro e w' ⟨rfl, rfl⟩
      exact ⟨rfl, Below.refl _ _⟩
  | cons x xs =>
    obtain ⟨b, off, cap, rfl, hn, _, hlt, hcs⟩ := h.seg.some (by simp)
    refine fjoin_any b off cap (x :: xs) _ wr (fun j y hj => ?_) hlt hn hx hl
    have := hcs j (strB y) (by rw [List.getElem?_map, hj]; rfl)
    exact this
set_option maxRecDepth 20000 in
set_option maxHeartbeats 4000000 in
theorem grouped_any {d : Nat} {l : List Ft} {vs : List Value} {y : Option Addr} {c : Nat} (word : List UInt8) (w : World) (hs : Seg w 29 1 (.slice y l.length c) l.length vs) (hl : vs.length = l.length) (hw : word.length ≤ 10) (hlen : l.length ≤ 100000) (hj : (Lib.join (l.map (textF d)) ([32] ++ word ++ [32])).length ≤ 100000000) (hel : ∀ (i : Nat) t u, l[i]? = some t → vs[i]? = some u → TextAt w u (textF d t)) :
    Calls Tryz.prog 127 #[.slice y l.length c, .string ⟨word.toArray⟩] w fun e w' => e = .returned (.string ⟨([40] ++ Lib.join (l.map (textF d)) ([32] ++ word ++ [32]) ++ [41]).toArray⟩) ∧ Below w.heap.size w w' := by
  have hcs : ∀ (i : Nat) u, vs[i]? = some u → ∃ g off, y = some ⟨g, off, none⟩ ∧ w.cell? ⟨g, off + i, none⟩ = some u ∧ g < w.heap.size := by
    obtain ⟨y', c', e, h⟩ := seg_slice hs
    injection e with e1 e2 e3
    subst e1
    exact h
  have HEL : Hid (∀ i, i < l.length → ∃ (t : Ft) (g off : Nat) (ty : TypeId) (rv : Value) (f : FuncId) (rc : Value), l[i]? = some t ∧ y = some ⟨g, off, none⟩ ∧ (∀ w2, Below w.heap.size w w2 → w2.cell? ⟨g, off + i, none⟩ = some (.iface ty rv)) ∧ (∀ W : World, (Go.method 326 ty rv "Text").run Tryz.prog W = .ok (f, rc) W) ∧ (∀ (args : Array Value) (W : World), (callFunc f args).run Tryz.prog W = .ok (.enter f args) W) ∧ ∀ w2, Below w.heap.size w w2 → Calls Tryz.prog f #[rc] w2 fun e w' => e = .returned (.string ⟨(textF d t).toArray⟩) ∧ Below w2.heap.size w2 w') := by
    intro i hi
    obtain ⟨u, hu⟩ : ∃ u, vs[i]? = some u := ⟨_, List.getElem?_eq_getElem (by omega)⟩
    obtain ⟨t, ht⟩ : ∃ t, l[i]? = some t := ⟨_, List.getElem?_eq_getElem hi⟩
    obtain ⟨g, off, e1, e2, e3⟩ := hcs i u hu
    obtain ⟨ty, rv, f, rc, rfl, h2, h3, h4⟩ := hel i t u ht hu
    refine ⟨t, g, off, ty, rv, f, rc, ht, e1, fun w2 h => ?_, h2, h3, h4⟩
    rw [h.cell (p := ⟨g, off + i, none⟩) e3]; exact e2
  obtain ⟨i0, hi, hz0, hz1, hz2⟩ := info_parts infoString
  have HJN : Hid (∀ pv wr, GtR w pv (l.map (textF d)) wr → Calls Tryz.prog 35 #[pv, .string (((⟨#[32]⟩ : ByteArray) ++ ⟨word.toArray⟩) ++ ⟨#[32]⟩)] wr fun e w' => e = .returned (.string ⟨(Lib.join (l.map (textF d)) ([32] ++ word ++ [32])).toArray⟩) ∧ Below wr.heap.size wr w') := fun pv wr h => h.joins word (by rw [List.length_map]; exact hlen) hj
  have HOU : Hid (∀ J : List UInt8, (⟨#[40]⟩ : ByteArray) ++ ⟨J.toArray⟩ ++ ⟨#[41]⟩ = ⟨([40] ++ J ++ [41]).toArray⟩) := fun J => by rw [← app_ba, ← app_ba]
  generalize hJ : Lib.join (l.map (textF d)) ([32] ++ word ++ [32]) = J at *
  have s1 : ¬ (9223372036854775807 < 1 + word.length) := by omega
  have s2 : ¬ (9223372036854775807 < 1 + word.length + 1) := by omega
  have s3 : ¬ (9223372036854775807 < 1 + J.length) := by omega
  have s4 : ¬ (9223372036854775807 < 1 + J.length + 1) := by omega
  clear hs hcs hel hl hj hJ
  go_enter Tryz.func127, Tryz.ntmps127
  go_wp2_with fail
  go_loopg [10, 5, 7] l.length (fun g v10 pv _ wx => ∃ i : Nat, i + g = l.length ∧ v10 = .int .i64 i ∧ GtR w pv ((l.take i).map (textF d)) wx)
  case atStart => exact ⟨0, by omega, rfl, ⟨Seg.nil _ _ _, fun j hj => by simp [Value.ownBlock] at hj, Below.refl _ _⟩⟩
  case round =>
    obtain ⟨i, hig, rfl, hgr⟩ := hrel
    by_cases hlt : i < l.length
    · obtain ⟨t, g, off, ty, rv, f, rc, ht, rfl, hcell, hm, he, hc⟩ := HEL.out i hlt
      have q0 := hcell wr hgr.bel
      have HPL : Hid (((l.take i).map (textF d)).length = i) := by show _ = _; simp; omega
      have HTK : Hid ((l.take (i + 1)).map (textF d) = (l.take i).map (textF d) ++ [textF d t]) := by
        show _ = _
        rw [List.take_add_one, ht]; simp
      have hi1 : (i : Int) < (l.length : Int) := by omega
      have HGR : Hid (GtR w u5 ((l.take i).map (textF d)) wr) := hgr
      have HC := hc wr hgr.bel
      clear hgr hcell hc
      generalize textF d t = sx at *
      go_wp2_with fail
      refine HC.mono ?_
      rintro e w2 ⟨rfl, hb2⟩
      have HG2 : Hid (GtR w u5 ((l.take i).map (textF d)) w2) := HGR.out.belowed hb2
      have HS2 : Hid (Seg w2 9 1 u5 i (((l.take i).map (textF d)).map strB)) := by have := HG2.out.seg; rw [HPL.out] at this; exact this
      clear hb2 HC
      go_wp2_with (at_builtin; refine wpList_append_seg _ rfl (.tmp 14) (.tmp 17) 64 rfl 9 i0 _ 1 16 Tryz.underlying64 hi hz0 hz1 hz2 rfl (by decide) _ _ _ rfl (HS2.out.below (by repeat' (first | with_reducible exact Below.refl _ _ | with_reducible refine Below.drew ?_ | with_reducible refine below_alloc_ ?_ _))) _ 1 1 _ rfl rfl (news_of (new_block_ (by simp))) (by simp [Value.oneCell']) (by decide) (by unfold maxLen; omega) (by omega) _ rfl ?_; intro g3 goff gcap w3 hs3 hg3 ha3 hl3)
      go_roundg (gk - 1)
      case measure => omega
      case rel =>
        refine ⟨i + 1, by omega, by go_num, ?_⟩
        have hst := HG2.out.step (s := sx) (g := g3) (goff := goff) (gcap := gcap) (by rw [HPL.out]; exact hs3) hg3 ha3
        rw [HPL.out] at hst
        rw [HTK.out]
        exact hst
    · obtain rfl : i = l.length := by omega
      rw [List.take_of_length_le (Nat.le_refl _)] at hgr
      have HB : Hid (Below w.heap.size w wr) := hgr.bel
      obtain ⟨py, pc, e2, -⟩ := seg_slice hgr.seg
      rw [List.length_map] at e2
      subst e2
      have HJ := HJN.out _ _ hgr
      clear hgr
      go_wp2_with fail
      refine HJ.mono ?_
      rintro e w2 ⟨rfl, hb2⟩
      clear HJ
      go_wp2
      go_ret
      refine ⟨?_, HB.out.trans (hb2.mono HB.out.size)⟩
      have hO := HOU.out J
      show Ending.returned (.string ((⟨#[40]⟩ : ByteArray) ++ ⟨J.toArray⟩ ++ ⟨#[41]⟩)) = _
      rw [hO]
      rfl
theorem text_lst {d b : Nat} {sl : Value} {l : List Ft} {vs : List Value} (w : World) (hb : w.heap[b]? = some (.cells #[sl] 99 (0, 0))) (hs : Seg w 29 1 sl l.length vs) (hl : vs.length = l.length) (hlen : l.length ≤ 100000) (hj : (Lib.join (l.map (textF d)) [32, 97, 110, 100, 32]).length ≤ 100000000) (hel : ∀ (i : Nat) t u, l[i]? = some t → vs[i]? = some u → TextAt w u (textF d t)) :
    ∀ w1, Below w.heap.size w w1 → Calls Tryz.prog 126 #[.pointer (some ⟨b, 0, none⟩)] w1 fun e w' => e = .returned (.string ⟨([40] ++ Lib.join (l.map (textF d)) [32, 97, 110, 100, 32] ++ [41]).toArray⟩) ∧ Below w1.heap.size w1 w' := by
  intro w1 hb1
  obtain ⟨y, c, rfl, -⟩ := seg_slice hs
  have c0 : w1.cell? ⟨b, 0, none⟩ = some (.slice y l.length c) := by rw [hb1.cell (p := ⟨b, 0, none⟩) (lt_of_block hb)]; simp [World.cell?, hb]
  have hbl : b < w1.heap.size := Nat.lt_of_lt_of_le (lt_of_block hb) hb1.size
  have HG : Hid (Calls Tryz.prog 127 #[.slice y l.length c, .string ⟨#[97, 110, 100]⟩] w1 fun e w' => e = .returned (.string ⟨([40] ++ Lib.join (l.map (textF d)) [32, 97, 110, 100, 32] ++ [41]).toArray⟩) ∧ Below w1.heap.size w1 w') := grouped_any [97, 110, 100] w1 (hs.below hb1) hl (by decide) hlen hj (fun i t u h1 h2 => by
    obtain ⟨ty, rv, f, rc, e1, e2, e3, e4⟩ := hel i t u h1 h2
    exact ⟨ty, rv, f, rc, e1, e2, e3, fun w2 h => e4 w2 (hb1.trans (h.mono hb1.size))⟩)
  clear hs hl hlen hj hel hb hb1
  go_enter Tryz.func126, Tryz.ntmps126
  go_wp2_with fail
  refine HG.out.mono ?_
  rintro e w2 ⟨rfl, hb2⟩
  go_wp2
  go_ret
  exact ⟨rfl, hb2⟩
theorem text_some {d b : Nat} {sl : Value} {l : List Ft} {vs : List Value} (w : World) (hb : w.heap[b]? = some (.cells #[sl] 100 (0, 0))) (hs : Seg w 29 1 sl l.length vs) (hl : vs.length = l.length) (hlen : l.length ≤ 100000) (hj : (Lib.join (l.map (textF d)) [32, 111, 114, 32]).length ≤ 100000000) (hel : ∀ (i : Nat) t u, l[i]? = some t → vs[i]? = some u → TextAt w u (textF d t)) :
    ∀ w1, Below w.heap.size w w1 → Calls Tryz.prog 129 #[.pointer (some ⟨b, 0, none⟩)] w1 fun e w' => e = .returned (.string ⟨([40] ++ Lib.join (l.map (textF d)) [32, 111, 114, 32] ++ [41]).toArray⟩) ∧ Below w1.heap.size w1 w' := by
  intro w1 hb1
  obtain ⟨y, c, rfl, -⟩ := seg_slice hs
  have c0 : w1.cell? ⟨b, 0, none⟩ = some (.slice y l.length c) := by rw [hb1.cell (p := ⟨b, 0, none⟩) (lt_of_block hb)]; simp [World.cell?, hb]
  have hbl : b < w1.heap.size := Nat.lt_of_lt_of_le (lt_of_block hb) hb1.size
  have HG : Hid (Calls Tryz.prog 127 #[.slice y l.length c, .string ⟨#[111, 114]⟩] w1 fun e w' => e = .returned (.string ⟨([40] ++ Lib.join (l.map (textF d)) [32, 111, 114, 32] ++ [41]).toArray⟩) ∧ Below w1.heap.size w1 w') := grouped_any [111, 114] w1 (hs.below hb1) hl (by decide) hlen hj (fun i t u h1 h2 => by
    obtain ⟨ty, rv, f, rc, e1, e2, e3, e4⟩ := hel i t u h1 h2
    exact ⟨ty, rv, f, rc, e1, e2, e3, fun w2 h => e4 w2 (hb1.trans (h.mono hb1.size))⟩)
  clear hs hl hlen hj hel hb hb1
  go_enter Tryz.func129, Tryz.ntmps129
  go_wp2_with fail
  refine HG.out.mono ?_
  rintro e w2 ⟨rfl, hb2⟩
  go_wp2
  go_ret
  exact ⟨rfl, hb2⟩
/-- Any filter in memory is written as it is. -/
theorem text_at (w : World) (S : Nat → Prop) (hG : GlobF w) : ∀ (d : Nat) (t : Ft) (v : Value), FAt w S d t v → nd d t ≤ 100000 → TextAt w v (textF d t)
  | 0, _, _, h, _ => h.elim
  | d + 1, t, v, h, hn => by
    have hok := h.ok
    have hlen := textF_len _ _ hok
    rcases h with ⟨rfl, rfl⟩ | ⟨f, lo, hi, rfl, rfl, hf, h1, h2, h3⟩ | ⟨f, n, rfl, rfl, hf, h1, h2⟩ | ⟨y, u, rfl, rfl, hy⟩ | ⟨k, l, b, sl, vs, rfl, hk, rfl, _, hb, _, hs, hl, hel⟩
    · exact ⟨_, _, _, _, rfl, xAny, yAny, fun w1 _ => text_leaf1 w1⟩
    · exact ⟨_, _, _, _, rfl, xSpan _ _ _, ySpan, fun w1 hb1 => text_span f lo hi w1 hf h1 h2 h3 (hG.below hb1)⟩
    · exact ⟨_, _, _, _, rfl, xBits _ _, yBits, fun w1 hb1 => text_bits f n w1 hf h1 h2 (hG.below hb1)⟩
    · rw [nd_not] at hn hlen
      rw [textF_not] at hlen
      have h1 := text_at w S hG d y u hy (by omega)
      rw [textF_not]
      exact ⟨_, _, _, _, rfl, xNot _, yNot, text_not w h1 (by omega)⟩
    · rw [nd_lst _ _ hk] at hn hlen
      have hE : ∀ (i : Nat) y u, l[i]? = some y → vs[i]? = some u → TextAt w u (textF d y) := fun i y u h1 h2 => text_at w S hG d y u (hel i y u h1 h2) (by have := nd_el (d := d) l y (List.mem_of_getElem? h1); omega)
      have hm : l.length ≤ 100000 := by have := nd_len (d := d) l; omega
      rcases hk with rfl | rfl
      · rw [textF_lst _ _ (Or.inl rfl)] at hlen ⊢
        rw [if_pos rfl] at hlen ⊢
        exact ⟨_, _, _, _, rfl, xAll _, yAll, text_lst w hb hs hl hm (by simp only [List.length_append] at hlen; omega) hE⟩
      · rw [textF_lst _ _ (Or.inr rfl)] at hlen ⊢
        rw [if_neg (by decide)] at hlen ⊢
        exact ⟨_, _, _, _, rfl, xSome _, ySome, text_some w hb hs hl hm (by simp only [List.length_append] at hlen; omega) hE⟩
end Go.Proofs.YtibecinojkkjpaaGreatDoor
