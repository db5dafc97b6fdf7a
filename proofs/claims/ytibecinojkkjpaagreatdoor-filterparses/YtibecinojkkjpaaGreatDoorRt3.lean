/-
  The reference's Text: not, all, some; whatever filter. Conditions: the filter lies in memory, and is not too great; what the program and the reference lay is laid.
-/
import Derived.Test.YtibecinojkkjpaaGreatDoorRt2
namespace Go.Proofs.YtibecinojkkjpaaGreatDoor
open Go.RowKit Go.Extern.Stop Go.Stop Go.Extern

theorem join_snoc (xs : List (List UInt8)) (x sep : List UInt8) (h : xs ≠ []) : Lib.join (xs ++ [x]) sep = Lib.join xs sep ++ (sep ++ x) := by
  cases xs with
  | nil => exact absurd rfl h
  | cons a r =>
    rw [List.cons_append, Lib.join_cons, Lib.join_cons]
    simp [Lib.joinTail, List.append_assoc]
theorem rt_not (b k g off cap : Nat) (f lo hi : Int) (s : List UInt8) (w1 : World) (hb : w1.heap[b]? = some (.cells #[.string ⟨#[110, 111, 116]⟩, .int .i64 f, .int .i64 lo, .int .i64 hi, .slice (some ⟨g, off, none⟩) 1 cap] 63 (0, 0))) (hk : w1.cell? ⟨g, off, none⟩ = some (.pointer (some ⟨k, 0, none⟩))) (hs : s.length ≤ 100000000)
    (hc : Calls Tryz.prog 8 #[.pointer (some ⟨k, 0, none⟩)] w1 fun e w' => e = .returned (.string ⟨s.toArray⟩) ∧ Below w1.heap.size w1 w') :
    Calls Tryz.prog 8 #[.pointer (some ⟨b, 0, none⟩)] w1 fun e w' => e = .returned (.string ⟨(Lib.join [[110, 111, 116], s] [32]).toArray⟩) ∧ Below w1.heap.size w1 w' := by
  obtain ⟨c0, c1, c2, c3, c4⟩ := cells5t hb
  have hbl := lt_of_block hb
  have hgl := cell_lt hk
  have s1 : ¬ (9223372036854775807 < 4 + s.length) := by omega
  have HEQ : Hid (Lib.join [[110, 111, 116], s] [32] = [110, 111, 116, 32] ++ s) := by show _ = _; simp [Lib.join]
  rw [HEQ.out]
  clear HEQ
  go_enter Tryz.func8, Tryz.ntmps8
  go_wp2_with fail
  refine hc.mono ?_
  rintro e w2 ⟨rfl, hb2⟩
  go_wp2
  go_ret
  refine ⟨?_, hb2⟩
  have hO : (⟨#[110, 111, 116, 32]⟩ : ByteArray) ++ ⟨s.toArray⟩ = ⟨([110, 111, 116, 32] ++ s).toArray⟩ := by rw [← app_ba]
  show Ending.returned (.string ((⟨#[110, 111, 116, 32]⟩ : ByteArray) ++ ⟨s.toArray⟩)) = _
  rw [hO]
  rfl
set_option maxRecDepth 100000 in
set_option maxHeartbeats 4000000 in
theorem rt_lst (b : Nat) (f lo hi : Int) (kd : List UInt8) (w1 : World) {tx : Ft → List UInt8} {l : List Ft} {y : Option Addr} {cap : Nat} (hb : w1.heap[b]? = some (.cells #[.string ⟨kd.toArray⟩, .int .i64 f, .int .i64 lo, .int .i64 hi, .slice y l.length cap] 63 (0, 0))) (hkd : kd = [97, 110, 100] ∨ kd = [111, 114]) (hx : l.length ≤ 100000)
    (hj : ∀ i, (Lib.join ((l.take i).map tx) ([32] ++ kd ++ [32])).length ≤ 100000000) (ht : ∀ t ∈ l, (tx t).length ≤ 100000000)
    (hel : ∀ i, i < l.length → ∃ (t : Ft) (g off k : Nat), l[i]? = some t ∧ y = some ⟨g, off, none⟩ ∧ (∀ w2, Below w1.heap.size w1 w2 → w2.cell? ⟨g, off + i, none⟩ = some (.pointer (some ⟨k, 0, none⟩))) ∧ ∀ w2, Below w1.heap.size w1 w2 → Calls Tryz.prog 8 #[.pointer (some ⟨k, 0, none⟩)] w2 fun e w' => e = .returned (.string ⟨(tx t).toArray⟩) ∧ Below w2.heap.size w2 w') :
    Calls Tryz.prog 8 #[.pointer (some ⟨b, 0, none⟩)] w1 fun e w' => e = .returned (.string ⟨([40] ++ Lib.join (l.map tx) ([32] ++ kd ++ [32]) ++ [41]).toArray⟩) ∧ Below w1.heap.size w1 w' := by
  have hkl : kd.length ≤ 3 := by rcases hkd with rfl | rfl <;> simp
  have n1 : (kd == [97, 110, 121]) = false := by rcases hkd with rfl | rfl <;> rfl
  have n2 : (kd == [116, 101, 115, 116]) = false := by rcases hkd with rfl | rfl <;> rfl
  have n3 : (kd == [104, 97, 115]) = false := by rcases hkd with rfl | rfl <;> rfl
  have n4 : (kd == [110, 111, 116]) = false := by rcases hkd with rfl | rfl <;> rfl
  have HEL : Hid (∀ i, i < l.length → ∃ (t : Ft) (g off k : Nat), l[i]? = some t ∧ y = some ⟨g, off, none⟩ ∧ (∀ w2, Below w1.heap.size w1 w2 → w2.cell? ⟨g, off + i, none⟩ = some (.pointer (some ⟨k, 0, none⟩))) ∧ ∀ w2, Below w1.heap.size w1 w2 → Calls Tryz.prog 8 #[.pointer (some ⟨k, 0, none⟩)] w2 fun e w' => e = .returned (.string ⟨(tx t).toArray⟩) ∧ Below w2.heap.size w2 w') := hel
  have HBW : Hid (w1.heap[b]? = some (.cells #[.string ⟨kd.toArray⟩, .int .i64 f, .int .i64 lo, .int .i64 hi, .slice y l.length cap] 63 (0, 0))) := hb
  obtain ⟨c0, c1, c2, c3, c4⟩ := cells5t hb
  have hbl := lt_of_block hb
  have HTT : Hid (∀ t ∈ l, (tx t).length ≤ 100000000) := ht
  have HJ0 : Hid (Lib.join ((l.take 0).map tx) ([32] ++ kd ++ [32]) = []) := by show _ = _; simp [Lib.join]
  have HJ1 : Hid (∀ t, l[0]? = some t → Lib.join ((l.take (0 + 1)).map tx) ([32] ++ kd ++ [32]) = tx t) := by
    intro t h
    rw [List.take_add_one, h]
    simp [Lib.join]
  have HJS : Hid (∀ (i : Nat) t, 0 < i → i < l.length → l[i]? = some t → Lib.join ((l.take (i + 1)).map tx) ([32] ++ kd ++ [32]) = Lib.join ((l.take i).map tx) ([32] ++ kd ++ [32]) ++ (([32] ++ kd ++ [32]) ++ tx t)) := by
    intro i t h0 hi h
    rw [List.take_add_one, h, List.map_append]
    refine join_snoc _ _ _ ?_
    intro e
    have h3 : ((l.take i).map tx).length = i := by rw [List.length_map, List.length_take]; omega
    rw [e] at h3
    simp at h3
    omega
  have HJL : Hid (∀ i, (Lib.join ((l.take i).map tx) ([32] ++ kd ++ [32])).length ≤ 100000000) := hj
  have HJE : Hid (Lib.join ((l.take l.length).map tx) ([32] ++ kd ++ [32]) = Lib.join (l.map tx) ([32] ++ kd ++ [32])) := by show _ = _; rw [List.take_length]
  have HSEP : Hid (∀ o t : List UInt8, ((⟨o.toArray⟩ : ByteArray) ++ (⟨#[32]⟩ ++ ⟨kd.toArray⟩ ++ ⟨#[32]⟩)) ++ ⟨t.toArray⟩ = ⟨(o ++ (([32] ++ kd ++ [32]) ++ t)).toArray⟩) := fun o t => by rw [show (⟨#[32]⟩ : ByteArray) = ⟨([32] : List UInt8).toArray⟩ from rfl]; simp only [app_ba, List.append_assoc]
  have HPAR : Hid (∀ J : List UInt8, (⟨#[40]⟩ : ByteArray) ++ ⟨J.toArray⟩ ++ ⟨#[41]⟩ = ⟨([40] ++ J ++ [41]).toArray⟩) := fun J => by rw [← app_ba, ← app_ba]
  have hxn : (l.length : Int) ≤ 9223372036854775807 := by omega
  have s1 : ¬ (9223372036854775807 < 1 + kd.length) := by omega
  have s2 : ¬ (9223372036854775807 < 1 + kd.length + 1) := by omega
  generalize hjn : (fun i => Lib.join ((l.take i).map tx) ([32] ++ kd ++ [32])) = jn
  have e : ∀ i, Lib.join ((l.take i).map tx) ([32] ++ kd ++ [32]) = jn i := fun i => by rw [← hjn]
  simp only [e] at HJ0 HJ1 HJS HJL HJE
  generalize Lib.join (l.map tx) ([32] ++ kd ++ [32]) = JJ at *
  clear hel hb ht hj e hjn hkd
  go_enter Tryz.func8, Tryz.ntmps8
  go_wp2_with fail
  go_loopg [4, 81, 5, 6] l.length (fun g v4 v81 _ _ wx => ∃ (i : Nat) (o : List UInt8), i + g = l.length ∧ v81 = .int .i64 i ∧ v4 = .string ⟨o.toArray⟩ ∧ Hid (o = jn i) ∧ Below w1.heap.size w1 wx)
  case atStart => exact ⟨0, [], by omega, rfl, rfl, HJ0.out.symm, Below.refl _ _⟩
  case round =>
    obtain ⟨i, o, hig, rfl, rfl, HO, hbr⟩ := hrel
    have HBR : Hid (Below w1.heap.size w1 wr) := hbr
    have hol : o.length ≤ 100000000 := by rw [HO.out]; exact HJL.out i
    clear c0 c1 c2 c3 c4
    obtain ⟨c0, c1, c2, c3, c4⟩ := cells5t ((hbr.block b hbl).trans HBW.out)
    have hbl2 : b < wr.heap.size := Nat.lt_of_lt_of_le hbl hbr.size
    clear hbr
    by_cases hi : i < l.length
    · obtain ⟨t, g, off, k, ht, rfl, hcell, hc⟩ := HEL.out i hi
      have q0 := hcell wr HBR.out
      have HC := hc wr HBR.out
      have hi1 : (i : Int) < (l.length : Int) := by omega
      have htl := HTT.out t (List.mem_of_getElem? ht)
      have HJT : Hid (∀ i, 0 < i → i < l.length → l[i]? = some t → jn (i + 1) = jn i ++ (([32] ++ kd ++ [32]) ++ tx t)) := fun i a b c => HJS.out i t a b c
      have HJU : Hid (l[0]? = some t → jn (0 + 1) = tx t) := fun c => HJ1.out t c
      clear hcell hc
      generalize tx t = st at *
      by_cases h0 : i = 0
      · subst h0
        obtain rfl : o = [] := HO.out.trans HJ0.out
        have s5 : ¬ (9223372036854775807 < 0 + st.length) := by omega
        have s6 : ¬ (9223372036854775807 < st.length) := by omega
        have HN := HJU.out ht
        have q1 : wr.cell? ⟨g, off, none⟩ = some (.pointer (some ⟨k, 0, none⟩)) := q0
        clear q0
        go_wp2_with fail
        refine HC.mono ?_
        rintro e w3 ⟨rfl, hb3⟩
        have HB3 := HBR.out.trans (hb3.mono HBR.out.size)
        go_wp2
        go_roundg (gk - 1)
        case measure => omega
        case rel => exact ⟨1, st, by omega, rfl, by (first | rfl | (rw [app_ba]; rfl)), HN.symm, HB3⟩
      · have h00 : (0 : Int) < (i : Int) := by omega
        have s3 : ¬ (9223372036854775807 < o.length + (1 + kd.length + 1)) := by omega
        have s4 : ¬ (9223372036854775807 < o.length + (1 + kd.length + 1) + st.length) := by omega
        have HN : Hid (o ++ (([32] ++ kd ++ [32]) ++ st) = jn (i + 1)) := by show _ = _; rw [HJT.out i (by omega) hi ht, HO.out]
        go_wp2_with fail
        refine HC.mono ?_
        rintro e w3 ⟨rfl, hb3⟩
        have HB3 := HBR.out.trans (hb3.mono HBR.out.size)
        go_wp2
        go_roundg (gk - 1)
        case measure => omega
        case rel => exact ⟨i + 1, o ++ (([32] ++ kd ++ [32]) ++ st), by omega, by go_num, by rw [HSEP.out], HN, HB3⟩
    · obtain rfl : i = l.length := by omega
      have HOE : Hid (o = JJ) := HO.out.trans HJE.out
      have s3 : ¬ (9223372036854775807 < 1 + o.length) := by omega
      have s4 : ¬ (9223372036854775807 < 1 + o.length + 1) := by omega
      go_wp2
      go_ret
      refine ⟨?_, HBR.out⟩
      have hO := HPAR.out o
      show Ending.returned (.string ((⟨#[40]⟩ : ByteArray) ++ ⟨o.toArray⟩ ++ ⟨#[41]⟩)) = _
      rw [hO, HOE.out]
      rfl
theorem sum_take_le (f : Ft → Nat) : ∀ (l : List Ft) (i : Nat), ((l.take i).map f).sum ≤ (l.map f).sum
  | [], i => by simp
  | a :: l, 0 => by simp
  | a :: l, i + 1 => by have := sum_take_le f l i; simp only [List.take_succ_cons, List.map_cons, List.sum_cons]; omega
/-- The reference's Text, of whatever filter. -/
theorem rtext_at (w : World) (S : Nat → Prop) (hR : GlobR w) (hG : GlobF w) : ∀ (d : Nat) (t : Ft) (b : Nat), RfAt w S d t b → nd d t ≤ 100000 → ∀ w1, Below w.heap.size w w1 →
    Calls Tryz.prog 8 #[.pointer (some ⟨b, 0, none⟩)] w1 fun e w' => e = .returned (.string ⟨(textF d t).toArray⟩) ∧ Below w1.heap.size w1 w'
  | 0, _, _, h, _, _, _ => h.elim
  | d + 1, t, b, h, hn, w1, hb => by
    obtain ⟨hok, hS, sl, ks, hblk, hsl, hseg, hl, hel⟩ := h
    have hb1 := (hb.block b (lt_of_block hblk)).trans hblk
    rcases hok with h | ⟨hk, hf, h0, h1, h2⟩ | ⟨hk, hf, h0, h1⟩ | ⟨y, h, hy⟩ | ⟨k, l, h, hk, hyl⟩
    · subst h
      exact rt_any b 0 0 0 sl w1 hb1
    · rw [hk] at hb1
      have e : textF (d + 1) t = Lib.join [nameF t.f, Lib.itoa t.lo] [32] ++ (if t.lo < t.hi then [46, 46] ++ Lib.itoa t.hi else []) := by rw [textF, if_neg (by omega), if_pos hk]
      rw [e]
      exact rt_test b t.f hf t.lo t.hi h0 h1 h2 sl w1 hb1 (hR.below hb) (hG.below hb)
    · rw [hk] at hb1
      have e : textF (d + 1) t = Lib.join [nameF t.f, [104, 97, 115], Lib.itoa t.lo] [32] := by rw [textF, if_neg (by omega), if_neg (by omega), if_pos hk]
      rw [e]
      exact rt_has b t.f hf t.lo t.lo h0 h1 sl w1 hb1 (hR.below hb) (hG.below hb)
    · subst h
      rw [nd_not] at hn
      obtain ⟨g, off, cap, rfl, -, -, hlt, hcs⟩ := hseg.some (by simp [notT])
      have hlk : ks.length = 1 := hl
      obtain ⟨k, rfl⟩ : ∃ k, ks = [k] := by
        match ks, hlk with
        | [k], _ => exact ⟨k, rfl⟩
      have hc0 : w.cell? ⟨g, off, none⟩ = some (.pointer (some ⟨k, 0, none⟩)) := hcs 0 _ rfl
      have hlen := textF_len d y hy
      rw [textF_not]
      exact rt_not b k g off cap 0 0 0 (textF d y) w1 hb1 ((hb.cell (p := ⟨g, off, none⟩) (cell_lt hc0)).trans hc0) (by omega) (rtext_at w S hR hG d y k (hel 0 y k rfl rfl) (by omega) w1 hb)
    · subst h
      rw [nd_lst _ _ hk] at hn
      have hnl := nd_len (d := d) l
      obtain ⟨y, c, hslv, hcs⟩ : ∃ y c, sl = .slice y l.length c ∧ ∀ (i : Nat) u, (ks.map ptrV)[i]? = some u → ∃ g off, y = some ⟨g, off, none⟩ ∧ w.cell? ⟨g, off + i, none⟩ = some u ∧ g < w.heap.size := seg_slice hseg
      subst hslv
      have hlen : ∀ t ∈ l, (textF d t).length ≤ 100000000 := fun t ht => by have := textF_len d t (hyl t ht); have := nd_el (d := d) l t ht; omega
      have hsep : ∀ i, (Lib.join ((l.take i).map (textF d)) (if k = 4 then [32, 97, 110, 100, 32] else [32, 111, 114, 32])).length ≤ 100000000 := fun i => by
        have h1 := textF_len (d + 1) ⟨k, 0, 0, 0, l.take i⟩ (Or.inr (Or.inr (Or.inr (Or.inr ⟨k, l.take i, rfl, hk, fun y hy => hyl y (List.mem_of_mem_take hy)⟩))))
        rw [textF_lst _ _ hk, nd_lst _ _ hk] at h1
        have h2 := sum_take_le (nd d) l i
        simp only [List.length_append, List.length_cons, List.length_nil] at h1
        omega
      have hE : ∀ i, i < l.length → ∃ (t : Ft) (g off k : Nat), l[i]? = some t ∧ y = some ⟨g, off, none⟩ ∧ (∀ w2, Below w1.heap.size w1 w2 → w2.cell? ⟨g, off + i, none⟩ = some (.pointer (some ⟨k, 0, none⟩))) ∧ ∀ w2, Below w1.heap.size w1 w2 → Calls Tryz.prog 8 #[.pointer (some ⟨k, 0, none⟩)] w2 fun e w' => e = .returned (.string ⟨(textF d t).toArray⟩) ∧ Below w2.heap.size w2 w' := by
        intro i hi
        obtain ⟨t, ht⟩ : ∃ t, l[i]? = some t := ⟨_, List.getElem?_eq_getElem hi⟩
        have hl' : ks.length = l.length := hl
        obtain ⟨k, hk⟩ : ∃ k, ks[i]? = some k := ⟨_, List.getElem?_eq_getElem (by omega)⟩
        obtain ⟨g, off, e1, e2, e3⟩ := hcs i (ptrV k) (by rw [List.getElem?_map, hk]; rfl)
        refine ⟨t, g, off, k, ht, e1, fun w2 h => ?_, fun w2 h => rtext_at w S hR hG d t k (hel i t k ht hk) (by have := nd_el (d := d) l t (List.mem_of_getElem? ht); omega) w2 (hb.trans (h.mono hb.size))⟩
        have hbb := hb.trans (h.mono hb.size)
        rw [hbb.cell (p := ⟨g, off + i, none⟩) e3]; exact e2
      rw [textF_lst _ _ hk]
      rcases hk with rfl | rfl
      · exact rt_lst b 0 0 0 [97, 110, 100] w1 hb1 (Or.inl rfl) (by omega) hsep hlen hE
      · exact rt_lst b 0 0 0 [111, 114] w1 hb1 (Or.inr rfl) (by omega) hsep hlen hE
end Go.Proofs.YtibecinojkkjpaaGreatDoor
