/-
  millracebig.cmp of two numbers: -1, 0 or 1 as the first one is less, the same or more; nothing turns but a count of draws.
-/
import Derived.Test.YtdaapdpbnijefaaGreatDoorGd
import Derived.Deep.QuietTactic
import Derived.BigQuiet
namespace Go.Proofs.YtdaapdpbnijefaaGreatDoor
open Go.RowKit

theorem pow_pos32 (n : Nat) : 0 < 4294967296 ^ n := Nat.pow_pos (by omega)
theorem canon_ge {ws : List Nat} (h : canon ws) (h0 : ws ≠ []) : 4294967296 ^ (ws.length - 1) ≤ val ws := by
  obtain ⟨l, a, rfl⟩ : ∃ l a, ws = l ++ [a] := ⟨ws.dropLast, ws.getLast h0, (List.dropLast_concat_getLast h0).symm⟩
  have ha : a ≠ 0 := by have := h.2; simpa using this
  rw [val_append]
  simp only [List.length_append, List.length_cons, List.length_nil, Nat.zero_add, Nat.add_sub_cancel, val, Nat.mul_zero, Nat.add_zero]
  have : 4294967296 ^ l.length * 1 ≤ 4294967296 ^ l.length * a := Nat.mul_le_mul_left _ (by omega)
  omega
theorem val_lt_len {a b : List Nat} (ha : canon a) (hb : canon b) (h : a.length < b.length) : val a < val b := by
  have h1 := val_lt ha.1
  have h2 := canon_ge hb (by intro e; subst e; simp at h)
  have h3 : 4294967296 ^ a.length ≤ 4294967296 ^ (b.length - 1) := Nat.pow_le_pow_right (by omega) (by omega)
  omega
theorem val_lt_top {a b : List Nat} {i u v : Nat} (ha : ∀ x ∈ a, x < 4294967296) (hl : a.length = b.length) (hu : a[i]? = some u) (hv : b[i]? = some v) (hd : a.drop (i + 1) = b.drop (i + 1)) (h : u < v) : val a < val b := by
  have e1 : a = a.take i ++ (u :: a.drop (i + 1)) := by
    obtain ⟨hi, rfl⟩ := List.getElem?_eq_some_iff.1 hu
    rw [← List.drop_eq_getElem_cons hi, List.take_append_drop]
  have e2 : b = b.take i ++ (v :: b.drop (i + 1)) := by
    obtain ⟨hi, rfl⟩ := List.getElem?_eq_some_iff.1 hv
    rw [← List.drop_eq_getElem_cons hi, List.take_append_drop]
  have hi := (List.getElem?_eq_some_iff.1 hu).1
  have l1 : (a.take i).length = i := by rw [List.length_take]; omega
  have l2 : (b.take i).length = i := by rw [List.length_take]; omega
  have v1 := val_lt (ws := a.take i) fun x hx => ha x (List.mem_of_mem_take hx)
  rw [l1] at v1
  rw [e1, e2, val_append, val_append, l1, l2, hd]
  simp only [val]
  have : 4294967296 ^ i * (u + 4294967296 * val (b.drop (i + 1)) + 1) ≤ 4294967296 ^ i * (v + 4294967296 * val (b.drop (i + 1))) := Nat.mul_le_mul_left _ (by omega)
  rw [Nat.mul_add, Nat.mul_one] at this
  omega

def cmpOf (n m : Nat) : Int := if n < m then -1 else if n = m then 0 else 1
theorem cmpOf_lt {n m : Nat} (h : n < m) : cmpOf n m = -1 := by simp [cmpOf, h]
theorem cmpOf_gt {n m : Nat} (h : m < n) : cmpOf n m = 1 := by unfold cmpOf; rw [if_neg (by omega), if_neg (by omega)]
theorem cmpOf_eq (n : Nat) : cmpOf n n = 0 := by simp [cmpOf]

theorem cmp_len (x y : Option Addr) (n m c d : Nat) (w : World) (_hn : n ≤ 1000000) (_hm : m ≤ 1000000) (h : n ≠ m) :
    Calls Tryz.prog 76 #[.slice x n c, .slice y m d] w fun e w' => e = .returned (.int .i64 (if n < m then -1 else 1)) ∧ w' = w := by
  have hne : ((n : Int) != (m : Int)) = true := by rw [bne_iff_ne]; omega
  by_cases hlt : n < m
  · go_enter Tryz.func76, Tryz.ntmps76
    go_wp2
    go_ret
    exact ⟨rfl, rfl⟩
  · go_enter Tryz.func76, Tryz.ntmps76
    go_wp2
    go_ret
    exact ⟨rfl, rfl⟩

theorem cmp_zero (x y : Option Addr) (c d : Nat) (w : World) :
    Calls Tryz.prog 76 #[.slice x 0 c, .slice y 0 d] w fun e w' => e = .returned (.int .i64 0) ∧ w' = w := by
  go_enter Tryz.func76, Tryz.ntmps76
  go_wp2
  refine wp_loop_rounds 1 ?_
  rw [rounds_succ]
  go_wp2
  go_ret
  exact ⟨rfl, rfl⟩

set_option maxHeartbeats 2000000 in
theorem cmp_same (b1 o1 b2 o2 c d : Nat) (xs ys : List Nat) (w : World) (hl : xs.length = ys.length) (h0 : 0 < xs.length) (h1 : xs.length ≤ 1000000) (hx : ∀ u ∈ xs, u < 4294967296) (hy : ∀ u ∈ ys, u < 4294967296)
    (cx : ∀ (i u : Nat), xs[i]? = some u → w.cell? ⟨b1, o1 + i, none⟩ = some (.int .u32 (u : Int))) (cy : ∀ (i u : Nat), ys[i]? = some u → w.cell? ⟨b2, o2 + i, none⟩ = some (.int .u32 (u : Int))) :
    Calls Tryz.prog 76 #[.slice (some ⟨b1, o1, none⟩) xs.length c, .slice (some ⟨b2, o2, none⟩) ys.length d] w fun e w' => e = .returned (.int .i64 (cmpOf (val xs) (val ys))) ∧ Below w.heap.size w w' := by
  have HX : Hid (∀ u ∈ xs, u < 4294967296) := hx
  have HY : Hid (∀ u ∈ ys, u < 4294967296) := hy
  have CX : Hid (∀ (i u : Nat), xs[i]? = some u → w.cell? ⟨b1, o1 + i, none⟩ = some (.int .u32 (u : Int))) := cx
  have CY : Hid (∀ (i u : Nat), ys[i]? = some u → w.cell? ⟨b2, o2 + i, none⟩ = some (.int .u32 (u : Int))) := cy
  have HL : Hid (xs.length = ys.length) := hl
  rw [← hl]
  generalize hn : xs.length = n at *
  have HN : Hid (xs.length = n) := hn
  clear hn hl hx hy cx cy
  go_enter Tryz.func76, Tryz.ntmps76
  go_wp2
  go_loopw [5] (fun t wr => ∃ k : Nat, k ≤ n ∧ t = .int .i64 ((k : Int) - 1) ∧ xs.drop k = ys.drop k ∧ ∃ q, wr = w.drewN q) (fun t _ => (intOf t + 1).toNat)
  case atStart => exact ⟨n, Nat.le_refl _, by first | rfl | go_num, by rw [List.drop_of_length_le (by have := HN.out; omega), List.drop_of_length_le (by have := HN.out; have := HL.out; omega)], 0, rfl⟩
  case round =>
    obtain ⟨k, hk, rfl, hd, q, rfl⟩ := hrel
    have HD : Hid (xs.drop k = ys.drop k) := hd
    clear hd
    by_cases hk0 : k = 0
    · subst hk0
      go_wp2
      go_ret
      have : xs = ys := by simpa using HD.out
      subst this
      exact ⟨by rw [cmpOf_eq]; rfl, below_drewN (Below.refl _ _) _⟩
    · obtain ⟨i, hi⟩ : ∃ i, k = i + 1 := ⟨k - 1, by omega⟩
      subst hi
      have e1 : ((i + 1 : Nat) : Int) - 1 = (i : Int) := by omega
      rw [e1]
      clear e1 hk0
      obtain ⟨u, hu⟩ : ∃ u, xs[i]? = some u := ⟨_, List.getElem?_eq_getElem (by have := HN.out; omega)⟩
      obtain ⟨v, hv⟩ : ∃ v, ys[i]? = some v := ⟨_, List.getElem?_eq_getElem (by have := HN.out; have := HL.out; omega)⟩
      have c1 := CX.out i u hu
      have c2 := CY.out i v hv
      have u1 := HX.out u (List.mem_of_getElem? hu)
      have v1 := HY.out v (List.mem_of_getElem? hv)
      have HU : Hid (xs[i]? = some u) := hu
      have HV : Hid (ys[i]? = some v) := hv
      have hi0 : (0 : Int) ≤ (i : Int) := by omega
      have hin : (i : Int) < (n : Int) := by omega
      clear hu hv
      by_cases huv : u = v
      · have HE : Hid (u = v) := huv
        have hq : ((u : Int) != (v : Int)) = false := by simp [huv]
        clear huv
        go_wp2
        go_quiet (fail)
        go_wp2
        go_roundw
        case rel =>
          refine ⟨i, by omega, rfl, ?_, q + nq, rfl⟩
          obtain ⟨a1, a2⟩ := List.getElem?_eq_some_iff.1 HU.out
          obtain ⟨b1, b2⟩ := List.getElem?_eq_some_iff.1 HV.out
          rw [List.drop_eq_getElem_cons a1, List.drop_eq_getElem_cons b1, a2, b2, HE.out, HD.out]
        case measure => simp [intOf]
      · have hq : ((u : Int) != (v : Int)) = true := by rw [bne_iff_ne]; omega
        go_wp2
        go_quiet (fail)
        go_wp2
        go_quiet (fail)
        by_cases hlt : u < v
        · go_wp2
          go_ret
          refine ⟨?_, below_drewN (below_drewN (below_drewN (Below.refl _ _) _) _) _⟩
          rw [cmpOf_lt (val_lt_top HX.out (by rw [HN.out]; exact HL.out) HU.out HV.out HD.out hlt)]; rfl
        · go_wp2
          go_ret
          refine ⟨?_, below_drewN (below_drewN (below_drewN (Below.refl _ _) _) _) _⟩
          rw [cmpOf_gt (val_lt_top HY.out (by rw [HN.out]; exact HL.out.symm) HV.out HU.out HD.out.symm (by omega))]; rfl

theorem cmp_any {v1 v2 : Value} {n m : Nat} (w : World) (h1 : NatAt w v1 n) (h2 : NatAt w v2 m) :
    Calls Tryz.prog 76 #[v1, v2] w fun e w' => e = .returned (.int .i64 (cmpOf n m)) ∧ Below w.heap.size w w' := by
  obtain ⟨xs, ⟨x, c, rfl, _, _, hx⟩, cx, rfl, lx⟩ := h1
  obtain ⟨ys, ⟨y, d, rfl, _, _, hy⟩, cy, rfl, ly⟩ := h2
  by_cases hl : xs.length = ys.length
  · by_cases h0 : xs = []
    · subst h0
      have : ys = [] := List.length_eq_zero_iff.1 hl.symm
      subst this
      refine (cmp_zero x y c d w).mono ?_
      rintro e w' ⟨rfl, rfl⟩
      exact ⟨by rw [cmpOf_eq], Below.refl _ _⟩
    · rcases hx with hx | ⟨b1, o1, rfl, hx⟩
      · exact absurd hx h0
      rcases hy with hy | ⟨b2, o2, rfl, hy⟩
      · exact absurd (List.length_eq_zero_iff.1 (by rw [hl, hy]; rfl)) h0
      refine (cmp_same b1 o1 b2 o2 c d xs ys w hl (List.length_pos_iff.2 h0) lx cx.1 cy.1 hx hy).mono ?_
      rintro e w' ⟨rfl, hb⟩
      exact ⟨rfl, hb⟩
  · refine (cmp_len x y _ _ c d w lx ly hl).mono ?_
    rintro e w' ⟨rfl, rfl⟩
    refine ⟨?_, Below.refl _ _⟩
    by_cases hlt : xs.length < ys.length
    · rw [if_pos hlt, cmpOf_lt (val_lt_len cx cy hlt)]
    · rw [if_neg hlt, cmpOf_gt (val_lt_len cy cx (by omega))]
end Go.Proofs.YtdaapdpbnijefaaGreatDoor
