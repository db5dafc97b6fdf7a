/-
  The reference's Meant: all, some. Conditions: the filter lies in memory. Written by wip/mkrq1.py.
-/
import Derived.Test.YtibecinojkkjpaaDoorRq1
namespace Go.Proofs.YtibecinojkkjpaaDoor
open Go.RowKit Go.Extern.Stop Go.Stop Go.Extern

theorem take_succ_count {α : Type} (me : α → Bool) {l : List α} {i : Nat} {t : α} (h : l[i]? = some t) : (l.take (i + 1)).countP me = (l.take i).countP me + (if me t then 1 else 0) := by
  rw [List.take_add_one, h, List.countP_append]
  simp [List.countP_cons]
set_option maxRecDepth 100000 in
set_option maxHeartbeats 4000000 in
theorem rm_and (x : It) (b f : Nat) (hf : f < 5) (lo hi : Int) (sl : Value) (w1 : World) (hb : w1.heap[b]? = some (.cells #[.string ⟨#[97, 110, 100]⟩, .int .i64 f, .int .i64 lo, .int .i64 hi, sl] 65 (0, 0))) {me : Ft → Bool} {l : List Ft} {y : Option Addr} {cap : Nat} (hs : sl = .slice y l.length cap) (hx : l.length ≤ maxLen) (hel : ∀ i, i < l.length → ∃ (t : Ft) (g off k : Nat), l[i]? = some t ∧ y = some ⟨g, off, none⟩ ∧ (∀ w2, Below w1.heap.size w1 w2 → w2.cell? ⟨g, off + i, none⟩ = some (.pointer (some ⟨k, 0, none⟩))) ∧ ∀ w2, Below w1.heap.size w1 w2 → Calls Tryd.prog 7 #[.pointer (some ⟨k, 0, none⟩), .agg #[.int .i64 x.a, .int .i64 x.l, .int .i64 x.f, .int .i64 x.b, .int .i64 x.m]] w2 fun e w' => e = .returned (.bool (me t)) ∧ Below w2.heap.size w2 w') :
    Calls Tryd.prog 7 #[.pointer (some ⟨b, 0, none⟩), .agg #[.int .i64 x.a, .int .i64 x.l, .int .i64 x.f, .int .i64 x.b, .int .i64 x.m]] w1 fun e w' => e = .returned (.bool (l.all me)) ∧ Below w1.heap.size w1 w' := by
  have hcc := fld_cell x hf (w1.alloc (.cells #[.int .i64 x.a, .int .i64 x.l, .int .i64 x.f, .int .i64 x.b, .int .i64 x.m] 23)) (w1.heap.size + 1) 3 (by simp)
  generalize fld x f = q at *
  obtain ⟨xa, xl, xf, xb, xm⟩ := x
  simp only at hcc ⊢
  have HEL : Hid (∀ i, i < l.length → ∃ (t : Ft) (g off k : Nat), l[i]? = some t ∧ y = some ⟨g, off, none⟩ ∧ (∀ w2, Below w1.heap.size w1 w2 → w2.cell? ⟨g, off + i, none⟩ = some (.pointer (some ⟨k, 0, none⟩))) ∧ ∀ w2, Below w1.heap.size w1 w2 → Calls Tryd.prog 7 #[.pointer (some ⟨k, 0, none⟩), .agg #[.int .i64 xa, .int .i64 xl, .int .i64 xf, .int .i64 xb, .int .i64 xm]] w2 fun e w' => e = .returned (.bool (me t)) ∧ Below w2.heap.size w2 w') := hel
  subst hs
  have hxn : (l.length : Int) ≤ 9223372036854775807 := by unfold maxLen at hx; omega
  clear hel hx
  obtain ⟨c0, c1, c2, c3, c4⟩ := cells5 hb
  have hbl : b < w1.heap.size := lt_of_block hb
  have hf1 : (f : Int) < 5 := by omega
  go_enter Tryd.func7, Tryd.ntmps7
  go_upto_region 1 with (fail)
  go_cut [5] (fun v wx => v = .int .i64 q ∧ Below (w1.alloc (.cells #[.int .i64 xa, .int .i64 xl, .int .i64 xf, .int .i64 xb, .int .i64 xm] 23)).heap.size (w1.alloc (.cells #[.int .i64 xa, .int .i64 xl, .int .i64 xf, .int .i64 xb, .int .i64 xm] 23)) wx)
  case first =>
    go_wp2
    go_region
    all_goals go_wp2
    all_goals
      go_meet
      case rel =>
        refine ⟨rfl, ?_⟩
        repeat' (first | with_reducible exact Below.refl _ _ | with_reducible refine Below.drew ?_ | with_reducible refine below_alloc_ ?_ _)
  case rest =>
  obtain ⟨rfl, hbe0⟩ := hcut
  have hbA : Below w1.heap.size w1 (w1.alloc (.cells #[.int .i64 xa, .int .i64 xl, .int .i64 xf, .int .i64 xb, .int .i64 xm] 23)) := below_alloc_ (Below.refl _ _) _
  have hbe := hbA.trans (hbe0.mono hbA.size)
  have hbw := (hbe.block b hbl).trans hb
  have kx := (hbe0.block w1.heap.size (by simp)).trans (new_block w1 (.cells #[.int .i64 xa, .int .i64 xl, .int .i64 xf, .int .i64 xb, .int .i64 xm] 23))
  obtain ⟨e0, e1, e2, e3, e4⟩ := cells5 hbw
  clear hcc hbe0 hbA c0 c1 c2 c3 c4
  have HAND : Hid ((decide (((l.countP me : Nat) : Int) = (l.length : Int))) = l.all me) := by
    show _ = _
    rw [Bool.eq_iff_iff, List.all_eq_true, decide_eq_true_iff]
    constructor
    · intro h; exact List.countP_eq_length.1 (by omega)
    · intro h; have := List.countP_eq_length.2 h; omega
  have HOR : Hid (decide (0 < l.countP me) = l.any me) := by
    show _ = _
    rw [Bool.eq_iff_iff, List.any_eq_true, decide_eq_true_iff]
    exact List.countP_pos_iff
  have HTL : Hid (l.take l.length = l) := List.take_length
  have HCS : Hid (∀ (i : Nat) t, l[i]? = some t → (l.take (i + 1)).countP me = (l.take i).countP me + (if me t then 1 else 0)) := fun i t h => take_succ_count me h
  have HCL : Hid (∀ i, (l.take i).countP me ≤ i) := fun i => Nat.le_trans List.countP_le_length (by rw [List.length_take]; omega)
  have HKX : Hid (wc.heap[w1.heap.size]? = some (.cells #[.int .i64 xa, .int .i64 xl, .int .i64 xf, .int .i64 xb, .int .i64 xm] 23 (0, 0))) := kx
  have HBW : Hid (wc.heap[b]? = some (.cells #[.string ⟨#[97, 110, 100]⟩, .int .i64 f, .int .i64 lo, .int .i64 hi, .slice y l.length cap] 65 (0, 0))) := hbw
  have HBE : Hid (Below w1.heap.size w1 wc) := hbe
  clear kx hbw hbe
  go_wp2_with fail
  go_loopg [7, 89, 9] l.length (fun g v7 v89 _ wy => ∃ i : Nat, i + g = l.length ∧ v89 = .int .i64 i ∧ v7 = .int .i64 (((l.take i).countP me : Nat) : Int) ∧ Below wc.heap.size wc wy)
  case atStart => exact ⟨0, by omega, rfl, by simp, Below.refl _ _⟩
  case round =>
    obtain ⟨i, hig, rfl, rfl, hbr⟩ := hrel
    have HBR2 : Hid (Below wc.heap.size wc wr) := hbr
    have HBR : Hid (Below w1.heap.size w1 wr) := HBE.out.trans (hbr.mono HBE.out.size)
    have hcl := HCL.out i
    by_cases hi : i < l.length
    · obtain ⟨t, g, off, k, ht, rfl, hcell, hc⟩ := HEL.out i hi
      have q0 := hcell wr HBR.out
      obtain ⟨x0, x1, x2, x3, x4⟩ := cells5 ((hbr.block w1.heap.size (lt_of_block HKX.out)).trans HKX.out)
      have HC := hc wr HBR.out
      have hi1 : (i : Int) < (l.length : Int) := by omega
      have HS1 := HCS.out i t ht
      have HS : Hid ((l.take (i + 1)).countP me = (l.take i).countP me + (if me t then 1 else 0)) := HS1
      clear HS1 hcell hc hbr ht
      generalize (l.take i).countP me = c at *
      go_wp2_with fail
      refine HC.mono ?_
      rintro e w3 ⟨rfl, hb3⟩
      have HB3 : Hid (Below wc.heap.size wc w3) := HBR2.out.trans (hb3.mono HBR2.out.size)
      clear hb3 HC
      cases hmt : me t
      · have HS2 : Hid ((l.take (i + 1)).countP me = c) := by show _ = _; rw [HS.out, hmt]; simp
        go_wp2
        go_roundg (gk - 1)
        case measure => omega
        case rel => exact ⟨i + 1, by omega, by go_num, by rw [HS2.out], HB3.out⟩
      · have HS2 : Hid ((l.take (i + 1)).countP me = c + 1) := by show _ = _; rw [HS.out, hmt]; simp
        go_wp2
        go_roundg (gk - 1)
        case measure => omega
        case rel => exact ⟨i + 1, by omega, by go_num, by rw [HS2.out]; go_num, HB3.out⟩
    · obtain rfl : i = l.length := by omega
      have HTL2 : Hid ((l.take l.length).countP me = l.countP me) := by show _ = _; rw [HTL.out]
      rw [HTL2.out]
      obtain ⟨q0, q1, q2, q3, q4⟩ := cells5 ((hbr.block b (lt_of_block HBW.out)).trans HBW.out)
      have HR := HAND.out
      clear hbr hcl
      generalize l.countP me = c at *
      go_wp2
      go_ret
      exact ⟨by rw [← HR]; rfl, HBR.out⟩
set_option maxRecDepth 100000 in
set_option maxHeartbeats 4000000 in
theorem rm_or (x : It) (b f : Nat) (hf : f < 5) (lo hi : Int) (sl : Value) (w1 : World) (hb : w1.heap[b]? = some (.cells #[.string ⟨#[111, 114]⟩, .int .i64 f, .int .i64 lo, .int .i64 hi, sl] 65 (0, 0))) {me : Ft → Bool} {l : List Ft} {y : Option Addr} {cap : Nat} (hs : sl = .slice y l.length cap) (hx : l.length ≤ maxLen) (hel : ∀ i, i < l.length → ∃ (t : Ft) (g off k : Nat), l[i]? = some t ∧ y = some ⟨g, off, none⟩ ∧ (∀ w2, Below w1.heap.size w1 w2 → w2.cell? ⟨g, off + i, none⟩ = some (.pointer (some ⟨k, 0, none⟩))) ∧ ∀ w2, Below w1.heap.size w1 w2 → Calls Tryd.prog 7 #[.pointer (some ⟨k, 0, none⟩), .agg #[.int .i64 x.a, .int .i64 x.l, .int .i64 x.f, .int .i64 x.b, .int .i64 x.m]] w2 fun e w' => e = .returned (.bool (me t)) ∧ Below w2.heap.size w2 w') :
    Calls Tryd.prog 7 #[.pointer (some ⟨b, 0, none⟩), .agg #[.int .i64 x.a, .int .i64 x.l, .int .i64 x.f, .int .i64 x.b, .int .i64 x.m]] w1 fun e w' => e = .returned (.bool (l.any me)) ∧ Below w1.heap.size w1 w' := by
  have hcc := fld_cell x hf (w1.alloc (.cells #[.int .i64 x.a, .int .i64 x.l, .int .i64 x.f, .int .i64 x.b, .int .i64 x.m] 23)) (w1.heap.size + 1) 3 (by simp)
  generalize fld x f = q at *
  obtain ⟨xa, xl, xf, xb, xm⟩ := x
  simp only at hcc ⊢
  have HEL : Hid (∀ i, i < l.length → ∃ (t : Ft) (g off k : Nat), l[i]? = some t ∧ y = some ⟨g, off, none⟩ ∧ (∀ w2, Below w1.heap.size w1 w2 → w2.cell? ⟨g, off + i, none⟩ = some (.pointer (some ⟨k, 0, none⟩))) ∧ ∀ w2, Below w1.heap.size w1 w2 → Calls Tryd.prog 7 #[.pointer (some ⟨k, 0, none⟩), .agg #[.int .i64 xa, .int .i64 xl, .int .i64 xf, .int .i64 xb, .int .i64 xm]] w2 fun e w' => e = .returned (.bool (me t)) ∧ Below w2.heap.size w2 w') := hel
  subst hs
  have hxn : (l.length : Int) ≤ 9223372036854775807 := by unfold maxLen at hx; omega
  clear hel hx
  obtain ⟨c0, c1, c2, c3, c4⟩ := cells5 hb
  have hbl : b < w1.heap.size := lt_of_block hb
  have hf1 : (f : Int) < 5 := by omega
  go_enter Tryd.func7, Tryd.ntmps7
  go_upto_region 1 with (fail)
  go_cut [5] (fun v wx => v = .int .i64 q ∧ Below (w1.alloc (.cells #[.int .i64 xa, .int .i64 xl, .int .i64 xf, .int .i64 xb, .int .i64 xm] 23)).heap.size (w1.alloc (.cells #[.int .i64 xa, .int .i64 xl, .int .i64 xf, .int .i64 xb, .int .i64 xm] 23)) wx)
  case first =>
    go_wp2
    go_region
    all_goals go_wp2
    all_goals
      go_meet
      case rel =>
        refine ⟨rfl, ?_⟩
        repeat' (first | with_reducible exact Below.refl _ _ | with_reducible refine Below.drew ?_ | with_reducible refine below_alloc_ ?_ _)
  case rest =>
  obtain ⟨rfl, hbe0⟩ := hcut
  have hbA : Below w1.heap.size w1 (w1.alloc (.cells #[.int .i64 xa, .int .i64 xl, .int .i64 xf, .int .i64 xb, .int .i64 xm] 23)) := below_alloc_ (Below.refl _ _) _
  have hbe := hbA.trans (hbe0.mono hbA.size)
  have hbw := (hbe.block b hbl).trans hb
  have kx := (hbe0.block w1.heap.size (by simp)).trans (new_block w1 (.cells #[.int .i64 xa, .int .i64 xl, .int .i64 xf, .int .i64 xb, .int .i64 xm] 23))
  obtain ⟨e0, e1, e2, e3, e4⟩ := cells5 hbw
  clear hcc hbe0 hbA c0 c1 c2 c3 c4
  have HAND : Hid ((decide (((l.countP me : Nat) : Int) = (l.length : Int))) = l.all me) := by
    show _ = _
    rw [Bool.eq_iff_iff, List.all_eq_true, decide_eq_true_iff]
    constructor
    · intro h; exact List.countP_eq_length.1 (by omega)
    · intro h; have := List.countP_eq_length.2 h; omega
  have HOR : Hid (decide (0 < l.countP me) = l.any me) := by
    show _ = _
    rw [Bool.eq_iff_iff, List.any_eq_true, decide_eq_true_iff]
    exact List.countP_pos_iff
  have HTL : Hid (l.take l.length = l) := List.take_length
  have HCS : Hid (∀ (i : Nat) t, l[i]? = some t → (l.take (i + 1)).countP me = (l.take i).countP me + (if me t then 1 else 0)) := fun i t h => take_succ_count me h
  have HCL : Hid (∀ i, (l.take i).countP me ≤ i) := fun i => Nat.le_trans List.countP_le_length (by rw [List.length_take]; omega)
  have HKX : Hid (wc.heap[w1.heap.size]? = some (.cells #[.int .i64 xa, .int .i64 xl, .int .i64 xf, .int .i64 xb, .int .i64 xm] 23 (0, 0))) := kx
  have HBW : Hid (wc.heap[b]? = some (.cells #[.string ⟨#[111, 114]⟩, .int .i64 f, .int .i64 lo, .int .i64 hi, .slice y l.length cap] 65 (0, 0))) := hbw
  have HBE : Hid (Below w1.heap.size w1 wc) := hbe
  clear kx hbw hbe
  go_wp2_with fail
  go_loopg [7, 89, 9] l.length (fun g v7 v89 _ wy => ∃ i : Nat, i + g = l.length ∧ v89 = .int .i64 i ∧ v7 = .int .i64 (((l.take i).countP me : Nat) : Int) ∧ Below wc.heap.size wc wy)
  case atStart => exact ⟨0, by omega, rfl, by simp, Below.refl _ _⟩
  case round =>
    obtain ⟨i, hig, rfl, rfl, hbr⟩ := hrel
    have HBR2 : Hid (Below wc.heap.size wc wr) := hbr
    have HBR : Hid (Below w1.heap.size w1 wr) := HBE.out.trans (hbr.mono HBE.out.size)
    have hcl := HCL.out i
    by_cases hi : i < l.length
    · obtain ⟨t, g, off, k, ht, rfl, hcell, hc⟩ := HEL.out i hi
      have q0 := hcell wr HBR.out
      obtain ⟨x0, x1, x2, x3, x4⟩ := cells5 ((hbr.block w1.heap.size (lt_of_block HKX.out)).trans HKX.out)
      have HC := hc wr HBR.out
      have hi1 : (i : Int) < (l.length : Int) := by omega
      have HS1 := HCS.out i t ht
      have HS : Hid ((l.take (i + 1)).countP me = (l.take i).countP me + (if me t then 1 else 0)) := HS1
      clear HS1 hcell hc hbr ht
      generalize (l.take i).countP me = c at *
      go_wp2_with fail
      refine HC.mono ?_
      rintro e w3 ⟨rfl, hb3⟩
      have HB3 : Hid (Below wc.heap.size wc w3) := HBR2.out.trans (hb3.mono HBR2.out.size)
      clear hb3 HC
      cases hmt : me t
      · have HS2 : Hid ((l.take (i + 1)).countP me = c) := by show _ = _; rw [HS.out, hmt]; simp
        go_wp2
        go_roundg (gk - 1)
        case measure => omega
        case rel => exact ⟨i + 1, by omega, by go_num, by rw [HS2.out], HB3.out⟩
      · have HS2 : Hid ((l.take (i + 1)).countP me = c + 1) := by show _ = _; rw [HS.out, hmt]; simp
        go_wp2
        go_roundg (gk - 1)
        case measure => omega
        case rel => exact ⟨i + 1, by omega, by go_num, by rw [HS2.out]; go_num, HB3.out⟩
    · obtain rfl : i = l.length := by omega
      have HTL2 : Hid ((l.take l.length).countP me = l.countP me) := by show _ = _; rw [HTL.out]
      rw [HTL2.out]
      obtain ⟨q0, q1, q2, q3, q4⟩ := cells5 ((hbr.block b (lt_of_block HBW.out)).trans HBW.out)
      have HR := HOR.out
      clear hbr hcl
      generalize l.countP me = c at *
      go_wp2
      go_ret
      exact ⟨by rw [← HR]; rfl, HBR.out⟩
end Go.Proofs.YtibecinojkkjpaaDoor
