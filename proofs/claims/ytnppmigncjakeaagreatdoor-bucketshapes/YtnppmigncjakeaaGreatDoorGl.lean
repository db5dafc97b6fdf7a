/-
  millracebig.cmp of two numbers: -1, 0 or 1 as the first one is less, the same or more; nothing turns but a count of draws.
  millracebig.add, sub of two numbers (without signs): their sum, their difference (the first is at least the second); nothing that was there before is otherwise.
-/
import Derived.Test.YtnppmigncjakeaaGreatDoorGd
import Derived.Deep.QuietTactic
import Derived.BigQuiet
import Derived.Deep.OwnRows
namespace Go.Proofs.YtnppmigncjakeaaGreatDoor
open Go.RowKit

theorem pow_pos32 (n : Nat) : 0 < 4294967296 ^ n := Nat.pow_pos (by omega)
theorem canon_ge {ws : List Nat} (h : canon ws) (h0 : ws ≠ []) : 4294967296 ^ (ws.length - 1) ≤ val ws := by
  obtain ⟨l, a, rfl⟩ : ∃ l a, ws = l ++ [a] := ⟨ws.dropLast, ws.getLast h0, (List.dropLast_concat_getLast h0).symm⟩
  have ha : a ≠ 0 := by have := h.2; simpa using this
  rw [val_append]
  simp only [List.length_append, List.length_cons, List.length_nil, Nat.zero_add, Nat.add_sub_cancel, val, Nat.mul_zero, Nat.add_zero]
  have : 4294967296 ^ l.length * 1 ≤ 4294967296 ^ l.length * a := Nat.mul_le_mul_left _ (by omega)
  omega
theorem val_lt_len {a b : List Nat} (ha : canon a) (hb : canon b) (h : a.length < b.length) : val a < val b := by
  have h1 := val_lt ha.1
  have h2 := canon_ge hb (by intro e; subst e; simp at h)
  have h3 : 4294967296 ^ a.length ≤ 4294967296 ^ (b.length - 1) := Nat.pow_le_pow_right (by omega) (by omega)
  omega
theorem val_lt_top {a b : List Nat} {i u v : Nat} (ha : ∀ x ∈ a, x < 4294967296) (hl : a.length = b.length) (hu : a[i]? = some u) (hv : b[i]? = some v) (hd : a.drop (i + 1) = b.drop (i + 1)) (h : u < v) : val a < val b := by
  have e1 : a = a.take i ++ (u :: a.drop (i + 1)) := by
    obtain ⟨hi, rfl⟩ := List.getElem?_eq_some_iff.1 hu
    rw [← List.drop_eq_getElem_cons hi, List.take_append_drop]
  have e2 : b = b.take i ++ (v :: b.drop (i + 1)) := by
    obtain ⟨hi, rfl⟩ := List.getElem?_eq_some_iff.1 hv
    rw [← List.drop_eq_getElem_cons hi, List.take_append_drop]
  have hi := (List.getElem?_eq_some_iff.1 hu).1
  have l1 : (a.take i).length = i := by rw [List.length_take]; omega
  have l2 : (b.take i).length = i := by rw [List.length_take]; omega
  have v1 := val_lt (ws := a.take i) fun x hx => ha x (List.mem_of_mem_take hx)
  rw [l1] at v1
  rw [e1, e2, val_append, val_append, l1, l2, hd]
  simp only [val]
  have : 4294967296 ^ i * (u + 4294967296 * val (b.drop (i + 1)) + 1) ≤ 4294967296 ^ i * (v + 4294967296 * val (b.drop (i + 1))) := Nat.mul_le_mul_left _ (by omega)
  rw [Nat.mul_add, Nat.mul_one] at this
  omega

def cmpOf (n m : Nat) : Int := if n < m then -1 else if n = m then 0 else 1
theorem cmpOf_lt {n m : Nat} (h : n < m) : cmpOf n m = -1 := by simp [cmpOf, h]
theorem cmpOf_gt {n m : Nat} (h : m < n) : cmpOf n m = 1 := by unfold cmpOf; rw [if_neg (by omega), if_neg (by omega)]
theorem cmpOf_eq (n : Nat) : cmpOf n n = 0 := by simp [cmpOf]

theorem cmp_len (x y : Option Addr) (n m c d : Nat) (w : World) (_hn : n ≤ 1000000) (_hm : m ≤ 1000000) (h : n ≠ m) :
    Calls Tryz.prog 76 #[.slice x n c, .slice y m d] w fun e w' => e = .returned (.int .i64 (if n < m then -1 else 1)) ∧ w' = w := by
  have hne : ((n : Int) != (m : Int)) = true := by rw [bne_iff_ne]; omega
  by_cases hlt : n < m
  · go_enter Tryz.func76, Tryz.ntmps76
    go_wp2
    go_ret
    exact ⟨rfl, rfl⟩
  · go_enter Tryz.func76, Tryz.ntmps76
    go_wp2
    go_ret
    exact ⟨rfl, rfl⟩

theorem cmp_zero (x y : Option Addr) (c d : Nat) (w : World) :
    Calls Tryz.prog 76 #[.slice x 0 c, .slice y 0 d] w fun e w' => e = .returned (.int .i64 0) ∧ w' = w := by
  go_enter Tryz.func76, Tryz.ntmps76
  go_wp2
  refine wp_loop_rounds 1 ?_
  rw [rounds_succ]
  go_wp2
  go_ret
  exact ⟨rfl, rfl⟩

set_option maxHeartbeats 2000000 in
theorem cmp_same (b1 o1 b2 o2 c d : Nat) (xs ys : List Nat) (w : World) (hl : xs.length = ys.length) (h0 : 0 < xs.length) (h1 : xs.length ≤ 1000000) (hx : ∀ u ∈ xs, u < 4294967296) (hy : ∀ u ∈ ys, u < 4294967296)
    (cx : ∀ (i u : Nat), xs[i]? = some u → w.cell? ⟨b1, o1 + i, none⟩ = some (.int .u32 (u : Int))) (cy : ∀ (i u : Nat), ys[i]? = some u → w.cell? ⟨b2, o2 + i, none⟩ = some (.int .u32 (u : Int))) :
    Calls Tryz.prog 76 #[.slice (some ⟨b1, o1, none⟩) xs.length c, .slice (some ⟨b2, o2, none⟩) ys.length d] w fun e w' => e = .returned (.int .i64 (cmpOf (val xs) (val ys))) ∧ Below w.heap.size w w' := by
  have HX : Hid (∀ u ∈ xs, u < 4294967296) := hx
  have HY : Hid (∀ u ∈ ys, u < 4294967296) := hy
  have CX : Hid (∀ (i u : Nat), xs[i]? = some u → w.cell? ⟨b1, o1 + i, none⟩ = some (.int .u32 (u : Int))) := cx
  have CY : Hid (∀ (i u : Nat), ys[i]? = some u → w.cell? ⟨b2, o2 + i, none⟩ = some (.int .u32 (u : Int))) := cy
  have HL : Hid (xs.length = ys.length) := hl
  rw [← hl]
  generalize hn : xs.length = n at *
  have HN : Hid (xs.length = n) := hn
  clear hn hl hx hy cx cy
  go_enter Tryz.func76, Tryz.ntmps76
  go_wp2
  go_loopw [5] (fun t wr => ∃ k : Nat, k ≤ n ∧ t = .int .i64 ((k : Int) - 1) ∧ xs.drop k = ys.drop k ∧ ∃ q, wr = w.drewN q) (fun t _ => (intOf t + 1).toNat)
  case atStart => exact ⟨n, Nat.le_refl _, by first | rfl | go_num, by rw [List.drop_of_length_le (by have := HN.out; omega), List.drop_of_length_le (by have := HN.out; have := HL.out; omega)], 0, rfl⟩
  case round =>
    obtain ⟨k, hk, rfl, hd, q, rfl⟩ := hrel
    have HD : Hid (xs.drop k = ys.drop k) := hd
    clear hd
    by_cases hk0 : k = 0
    · subst hk0
      go_wp2
      go_ret
      have : xs = ys := by simpa using HD.out
      subst this
      exact ⟨by rw [cmpOf_eq]; rfl, below_drewN (Below.refl _ _) _⟩
    · obtain ⟨i, hi⟩ : ∃ i, k = i + 1 := ⟨k - 1, by omega⟩
      subst hi
      have e1 : ((i + 1 : Nat) : Int) - 1 = (i : Int) := by omega
      rw [e1]
      clear e1 hk0
      obtain ⟨u, hu⟩ : ∃ u, xs[i]? = some u := ⟨_, List.getElem?_eq_getElem (by have := HN.out; omega)⟩
      obtain ⟨v, hv⟩ : ∃ v, ys[i]? = some v := ⟨_, List.getElem?_eq_getElem (by have := HN.out; have := HL.out; omega)⟩
      have c1 := CX.out i u hu
      have c2 := CY.out i v hv
      have u1 := HX.out u (List.mem_of_getElem? hu)
      have v1 := HY.out v (List.mem_of_getElem? hv)
      have HU : Hid (xs[i]? = some u) := hu
      have HV : Hid (ys[i]? = some v) := hv
      have hi0 : (0 : Int) ≤ (i : Int) := by omega
      have hin : (i : Int) < (n : Int) := by omega
      clear hu hv
      by_cases huv : u = v
      · have HE : Hid (u = v) := huv
        have hq : ((u : Int) != (v : Int)) = false := by simp [huv]
        clear huv
        go_wp2
        go_quiet (fail)
        go_wp2
        go_roundw
        case rel =>
          refine ⟨i, by omega, rfl, ?_, q + nq, rfl⟩
          obtain ⟨a1, a2⟩ := List.getElem?_eq_some_iff.1 HU.out
          obtain ⟨b1, b2⟩ := List.getElem?_eq_some_iff.1 HV.out
          rw [List.drop_eq_getElem_cons a1, List.drop_eq_getElem_cons b1, a2, b2, HE.out, HD.out]
        case measure => simp [intOf]
      · have hq : ((u : Int) != (v : Int)) = true := by rw [bne_iff_ne]; omega
        go_wp2
        go_quiet (fail)
        go_wp2
        go_quiet (fail)
        by_cases hlt : u < v
        · go_wp2
          go_ret
          refine ⟨?_, below_drewN (below_drewN (below_drewN (Below.refl _ _) _) _) _⟩
          rw [cmpOf_lt (val_lt_top HX.out (by rw [HN.out]; exact HL.out) HU.out HV.out HD.out hlt)]; rfl
        · go_wp2
          go_ret
          refine ⟨?_, below_drewN (below_drewN (below_drewN (Below.refl _ _) _) _) _⟩
          rw [cmpOf_gt (val_lt_top HY.out (by rw [HN.out]; exact HL.out.symm) HV.out HU.out HD.out.symm (by omega))]; rfl

theorem cmp_any {v1 v2 : Value} {n m : Nat} (w : World) (h1 : NatAt w v1 n) (h2 : NatAt w v2 m) :
    Calls Tryz.prog 76 #[v1, v2] w fun e w' => e = .returned (.int .i64 (cmpOf n m)) ∧ Below w.heap.size w w' := by
  obtain ⟨xs, ⟨x, c, rfl, _, _, hx⟩, cx, rfl, lx⟩ := h1
  obtain ⟨ys, ⟨y, d, rfl, _, _, hy⟩, cy, rfl, ly⟩ := h2
  by_cases hl : xs.length = ys.length
  · by_cases h0 : xs = []
    · subst h0
      have : ys = [] := List.length_eq_zero_iff.1 hl.symm
      subst this
      refine (cmp_zero x y c d w).mono ?_
      rintro e w' ⟨rfl, rfl⟩
      exact ⟨by rw [cmpOf_eq], Below.refl _ _⟩
    · rcases hx with hx | ⟨b1, o1, rfl, hx⟩
      · exact absurd hx h0
      rcases hy with hy | ⟨b2, o2, rfl, hy⟩
      · exact absurd (List.length_eq_zero_iff.1 (by rw [hl, hy]; rfl)) h0
      refine (cmp_same b1 o1 b2 o2 c d xs ys w hl (List.length_pos_iff.2 h0) lx cx.1 cy.1 hx hy).mono ?_
      rintro e w' ⟨rfl, hb⟩
      exact ⟨rfl, hb⟩
  · refine (cmp_len x y _ _ c d w lx ly hl).mono ?_
    rintro e w' ⟨rfl, rfl⟩
    refine ⟨?_, Below.refl _ _⟩
    by_cases hlt : xs.length < ys.length
    · rw [if_pos hlt, cmpOf_lt (val_lt_len cx cy hlt)]
    · rw [if_neg hlt, cmpOf_gt (val_lt_len cy cx (by omega))]
end Go.Proofs.YtnppmigncjakeaaGreatDoor
namespace Go.Proofs.YtnppmigncjakeaaGreatDoor
open Go.RowKit Go.Deep

/-- So many words of a row that the call makes, the rest 0. -/
def RowW (w : World) (b n : Nat) (rs : List Nat) : Prop := w.rowIs b 141 n (fun j => .int .u32 ((rs.getD j 0 : Nat) : Int))
theorem RowW.set {w : World} {b n k d : Nat} {rs : List Nat} (h : RowW w b n rs) (hl : rs.length = k) : RowW (w.setCell ⟨b, k, none⟩ (.int .u32 (d : Int))) b n (rs ++ [d]) := by
  refine (World.rowIs.set h k _).congr fun i _ => ?_
  by_cases hi : i = k
  · subst hi; subst hl; simp [List.getD]
  · rw [if_neg hi]
    rcases Nat.lt_or_ge i k with h' | h'
    · simp [List.getD, List.getElem?_append_left (by omega : i < rs.length)]
    · simp only [List.getD]
      rw [List.getElem?_eq_none (by omega), List.getElem?_eq_none (by simp; omega)]
theorem RowW.wordsAt {w : World} {b n : Nat} {rs : List Nat} (h : RowW w b n rs) (hl : rs.length = n) (hm : n ≤ maxLen) : WordsAt w (.slice (some ⟨b, 0, none⟩) n n) rs := by
  refine ⟨_, _, by rw [hl], by omega, hm, Or.inr ⟨b, 0, rfl, ?_⟩⟩
  intro i u hu
  have hi := (List.getElem?_eq_some_iff.1 hu).1
  rw [Nat.zero_add, World.rowIs.cell h (by omega)]
  simp [List.getD, hu]

theorem val_take_succ {ws : List Nat} {k u : Nat} (h : ws[k]? = some u) : val (ws.take (k + 1)) = val (ws.take k) + 4294967296 ^ k * u := by
  have hk := (List.getElem?_eq_some_iff.1 h).1
  rw [List.take_add_one, h, val_append]
  simp only [Option.toList_some, val, Nat.mul_zero, Nat.add_zero, List.length_take]
  rw [Nat.min_eq_left (by omega)]
theorem val_snoc (rs : List Nat) (d : Nat) : val (rs ++ [d]) = val rs + 4294967296 ^ rs.length * d := by
  rw [val_append]; simp [val]
theorem add_step {p r c x y s t d e : Nat} (h : r + p * c = s + t) (hd : d + 4294967296 * e = c + x + y) : r + p * d + p * 4294967296 * e = (s + p * x) + (t + p * y) := by
  have h1 : p * (d + 4294967296 * e) = p * (c + x + y) := by rw [hd]
  rw [Nat.mul_add, Nat.mul_add, Nat.mul_add, ← Nat.mul_assoc] at h1
  omega

theorem cell_below' {W w : World} {a : Addr} {v : Value} (hb : Below W.heap.size W w) (h : W.cell? a = some v) : w.cell? a = some v := by
  rw [hb.cell (lt_of_cell h)]; exact h
theorem infoU32' : (Tryz.prog.info? 141).map (fun i => (i.zero, i.size, i.bytes)) = some (some (.int .u32 0), 1, 4) := by kernel_rfl

/-- A word of ys, or 0 behind them. -/
def wordAt (ys : List Nat) (k : Nat) : Nat := ys.getD k 0
theorem val_take_wordAt (ys : List Nat) (k : Nat) : val (ys.take (k + 1)) = val (ys.take k) + 4294967296 ^ k * wordAt ys k := by
  unfold wordAt
  cases h : ys[k]? with
  | none =>
    have : ys.length ≤ k := List.getElem?_eq_none_iff.1 h
    rw [List.take_of_length_le (by omega), List.take_of_length_le (by omega)]
    simp [List.getD, h]
  | some u => rw [val_take_succ h]; simp [List.getD, h]

theorem len_le {ws : List Nat} {k : Nat} (h : canon ws) (hv : val ws < 4294967296 ^ k) : ws.length ≤ k := by
  rcases Nat.lt_or_ge k ws.length with h1 | h1
  · exfalso
    have h2 := canon_ge h (by intro e; subst e; simp at h1)
    have h3 : 4294967296 ^ k ≤ 4294967296 ^ (ws.length - 1) := Nat.pow_le_pow_right (by omega) (by omega)
    omega
  · exact h1
theorem add_next {xs ys rs : List Nat} {k e u v : Nat} (h : rs.length = k ∧ (∀ u ∈ rs, u < 4294967296) ∧ val rs + 4294967296 ^ k * e = val (xs.take k) + val (ys.take k)) (hu : xs[k]? = some u) (hv : wordAt ys k = v) :
    (rs ++ [(e + u + v) % 4294967296]).length = k + 1 ∧ (∀ x ∈ rs ++ [(e + u + v) % 4294967296], x < 4294967296) ∧ val (rs ++ [(e + u + v) % 4294967296]) + 4294967296 ^ (k + 1) * ((e + u + v) / 4294967296) = val (xs.take (k + 1)) + val (ys.take (k + 1)) := by
  obtain ⟨h1, h2, h3⟩ := h
  refine ⟨by simp [h1], ?_, ?_⟩
  · intro x hx
    rcases List.mem_append.1 hx with hx | hx
    · exact h2 x hx
    · simp at hx; omega
  · rw [val_snoc, h1, val_take_succ hu, val_take_wordAt, hv, Nat.pow_succ]
    exact add_step h3 (by omega)

set_option maxHeartbeats 4000000 in
set_option maxRecDepth 100000 in
theorem add_long (x y : Option Addr) (c d : Nat) (xs ys : List Nat) (w : World) (hl : ys.length ≤ xs.length) (h1 : xs.length ≤ 100000) (hx : ∀ u ∈ xs, u < 4294967296) (hy : ∀ u ∈ ys, u < 4294967296)
    (cx : xs = [] ∨ ∃ b off, x = some ⟨b, off, none⟩ ∧ ∀ (i u : Nat), xs[i]? = some u → w.cell? ⟨b, off + i, none⟩ = some (.int .u32 (u : Int)))
    (cy : ys = [] ∨ ∃ b off, y = some ⟨b, off, none⟩ ∧ ∀ (i u : Nat), ys[i]? = some u → w.cell? ⟨b, off + i, none⟩ = some (.int .u32 (u : Int))) :
    Calls Tryz.prog 106 #[.slice x xs.length c, .slice y ys.length d] w (fun e w' => ∃ v, e = .returned v ∧ NatAt w' v (val xs + val ys) ∧ Below w.heap.size w w') ∧
    (ys.length < xs.length → Calls Tryz.prog 106 #[.slice y ys.length d, .slice x xs.length c] w (fun e w' => ∃ v, e = .returned v ∧ NatAt w' v (val xs + val ys) ∧ Below w.heap.size w w')) := by
  have HX : Hid (∀ u ∈ xs, u < 4294967296) := hx
  have HY : Hid (∀ u ∈ ys, u < 4294967296) := hy
  have CX : Hid (xs = [] ∨ ∃ b off, x = some ⟨b, off, none⟩ ∧ ∀ (i u : Nat), xs[i]? = some u → w.cell? ⟨b, off + i, none⟩ = some (.int .u32 (u : Int))) := cx
  have CY : Hid (ys = [] ∨ ∃ b off, y = some ⟨b, off, none⟩ ∧ ∀ (i u : Nat), ys[i]? = some u → w.cell? ⟨b, off + i, none⟩ = some (.int .u32 (u : Int))) := cy
  generalize hn : xs.length = n at *
  generalize hm : ys.length = m at *
  have HN : Hid (xs.length = n) := hn
  have HM : Hid (ys.length = m) := hm
  have hmk := run_make_row' (P := Tryz.prog) 100 141 (.int .u32 0) 4 Tryz.underlying100 infoU32' rfl .i64 .i64 (n + 1) (by omega) (by omega)
  have hcast : ((n + 1 : Nat) : Int) = (n : Int) + 1 := by omega
  rw [hcast] at hmk
  clear hn hm hx hy cx cy
  refine ⟨?_, fun hsw => ?_⟩
  all_goals
    go_enter Tryz.func106, Tryz.ntmps106
    go_wp2
    go_loopw [6, 7] (fun t i wr => ∃ (k e : Nat) (rs : List Nat), k ≤ n ∧ i = .int .i64 k ∧ t = .int .u64 (e : Int) ∧ e ≤ 1 ∧ rs.length = k ∧ (∀ u ∈ rs, u < 4294967296) ∧ val rs + 4294967296 ^ k * e = val (xs.take k) + val (ys.take k) ∧ RowW wr w.heap.size (n + 1) rs ∧ Below w.heap.size w wr) (fun _ i _ => n - (intOf i).toNat)
    case atStart =>
      refine ⟨0, 0, [], Nat.zero_le _, rfl, rfl, by omega, rfl, by simp, by simp [val], ?_, (Below.refl _ _).alloc (Nat.le_refl _) _⟩
      exact (World.rowIs_made w (.int .u32 0) (n + 1) 141).congr fun i _ => by simp [List.getD]
    case round =>
      obtain ⟨k, e, rs, hk, rfl, rfl, he, hrl, hrw, hval, hrow, hb⟩ := hrel
      have HR : Hid (rs.length = k ∧ (∀ u ∈ rs, u < 4294967296) ∧ val rs + 4294967296 ^ k * e = val (xs.take k) + val (ys.take k)) := ⟨hrl, hrw, hval⟩
      have HW : Hid (RowW wr w.heap.size (n + 1) rs) := hrow
      clear hrl hrw hval hrow
      have hsz := hb.size
      by_cases hlt : k < n
      · obtain ⟨u, hu⟩ : ∃ u, xs[k]? = some u := ⟨_, List.getElem?_eq_getElem (by have := HN.out; omega)⟩
        rcases CX.out with hnil | ⟨b1, o1, hx, cx⟩
        · subst hnil; simp at hu
        subst hx
        have c1 := cell_below' hb (cx k u hu)
        have u1 := HX.out u (List.mem_of_getElem? hu)
        have HU : Hid (xs[k]? = some u) := hu
        have hk0 : (0 : Int) ≤ (k : Int) := by omega
        have hkn : (k : Int) < (n : Int) := by omega
        have hkn1 : (k : Int) < (n : Int) + 1 := by omega
        have w1 := World.rowIs.cell HW.out (show k < n + 1 by omega)
        have w2 := World.rowIs.frozen HW.out k
        clear hu cx
        by_cases hky : k < m
        · obtain ⟨v, hv⟩ : ∃ v, ys[k]? = some v := ⟨_, List.getElem?_eq_getElem (by have := HM.out; omega)⟩
          rcases CY.out with hnil | ⟨b2, o2, hy, cy⟩
          · subst hnil; simp at hv
          subst hy
          have c2 := cell_below' hb (cy k v hv)
          have v1 := HY.out v (List.mem_of_getElem? hv)
          have HV : Hid (wordAt ys k = v) := by
            have : wordAt ys k = v := by simp [wordAt, List.getD, hv]
            exact this
          have hkm : (k : Int) < (m : Int) := by omega
          clear hv cy
          have hnx := add_next HR.out HU.out HV.out
          have HNX : Hid ((rs ++ [(e + u + v) % 4294967296]).length = k + 1 ∧ (∀ x ∈ rs ++ [(e + u + v) % 4294967296], x < 4294967296) ∧ val (rs ++ [(e + u + v) % 4294967296]) + 4294967296 ^ (k + 1) * ((e + u + v) / 4294967296) = val (xs.take (k + 1)) + val (ys.take (k + 1))) := hnx
          clear hnx
          go_wp2
          go_roundw
          case rel =>
            have hq : (((e : Int) + u + v) % 4294967296) = (((e + u + v) % 4294967296 : Nat) : Int) := by omega
            have hq2 : (((e : Int) + u + v) / 4294967296) = (((e + u + v) / 4294967296 : Nat) : Int) := by omega
            rw [hq, hq2]
            exact ⟨k + 1, _, _, by omega, by go_num, rfl, by omega, HNX.out.1, HNX.out.2.1, HNX.out.2.2, HW.out.set HR.out.1, hb.setCell (Nat.le_refl _) _⟩
          case measure => simp [intOf]; omega
        · have HV : Hid (wordAt ys k = 0) := by
            have : wordAt ys k = 0 := by simp [wordAt, List.getD, List.getElem?_eq_none (show ys.length ≤ k by have := HM.out; omega)]
            exact this
          have hkm : ¬ (k : Int) < (m : Int) := by omega
          have hnx := add_next HR.out HU.out HV.out
          have HNX : Hid ((rs ++ [(e + u + 0) % 4294967296]).length = k + 1 ∧ (∀ x ∈ rs ++ [(e + u + 0) % 4294967296], x < 4294967296) ∧ val (rs ++ [(e + u + 0) % 4294967296]) + 4294967296 ^ (k + 1) * ((e + u + 0) / 4294967296) = val (xs.take (k + 1)) + val (ys.take (k + 1))) := hnx
          clear hnx
          go_wp2
          go_roundw
          case rel =>
            have hq : (((e : Int) + u) % 4294967296) = (((e + u + 0) % 4294967296 : Nat) : Int) := by omega
            have hq2 : (((e : Int) + u) / 4294967296) = (((e + u + 0) / 4294967296 : Nat) : Int) := by omega
            rw [hq, hq2]
            exact ⟨k + 1, _, _, by omega, by go_num, rfl, by omega, HNX.out.1, HNX.out.2.1, HNX.out.2.2, HW.out.set HR.out.1, hb.setCell (Nat.le_refl _) _⟩
          case measure => simp [intOf]; omega
      · have hkn : k = n := by omega
        have HK : Hid (k = n) := hkn
        have w1 := World.rowIs.cell HW.out (show n < n + 1 by omega)
        have w2 := World.rowIs.frozen HW.out n
        have HW2 : Hid (RowW (wr.setCell ⟨w.heap.size, n, none⟩ (.int .u32 (e : Int))) w.heap.size (n + 1) (rs ++ [e])) := HW.out.set (by rw [HR.out.1]; exact hkn)
        have HF : Hid ((rs ++ [e]).length = n + 1 ∧ (∀ x ∈ rs ++ [e], x < 4294967296) ∧ val (rs ++ [e]) = val xs + val ys) := by
          obtain ⟨h1', h2, h3⟩ := HR.out
          refine ⟨by simp [h1', hkn], ?_, ?_⟩
          · intro x hx
            rcases List.mem_append.1 hx with hx | hx
            · exact h2 x hx
            · simp at hx; omega
          · rw [val_snoc, h1', h3, List.take_of_length_le (by have := HN.out; omega), List.take_of_length_le (by have := HM.out; omega)]
        have he32 : (e : Int) % 4294967296 = (e : Int) := by omega
        clear hkn
        go_wp2_with fail
        refine (trim_any _ (HW2.out.wordsAt HF.out.1 (by unfold maxLen; omega)) HF.out.2.1 (by rw [HF.out.1]; omega)).mono ?_
        rintro e' w2' ⟨v, rfl, hv, rfl⟩
        have HV2 : Hid (NatAt (wr.setCell ⟨w.heap.size, n, none⟩ (.int .u32 (e : Int))) v (val xs + val ys)) := by
          rw [HF.out.2.2] at hv
          exact hv
        clear hv
        go_wp2
        go_ret
        exact ⟨_, rfl, HV2.out, hb.setCell (Nat.le_refl _) _⟩

theorem add_any {v1 v2 : Value} {n m : Nat} (w : World) (h1 : NatAt w v1 n) (h2 : NatAt w v2 m) (hn : n < 4294967296 ^ 100) (hm : m < 4294967296 ^ 100) :
    Calls Tryz.prog 106 #[v1, v2] w fun e w' => ∃ v, e = .returned v ∧ NatAt w' v (n + m) ∧ Below w.heap.size w w' := by
  obtain ⟨xs, ⟨x, c, rfl, _, _, hx⟩, cx, rfl, lx⟩ := h1
  obtain ⟨ys, ⟨y, d, rfl, _, _, hy⟩, cy, rfl, ly⟩ := h2
  have l1 := len_le cx hn
  have l2 := len_le cy hm
  by_cases hl : ys.length ≤ xs.length
  · exact (add_long x y c d xs ys w hl (by omega) cx.1 cy.1 hx hy).1
  · have h := (add_long y x d c ys xs w (by omega) (by omega) cy.1 cx.1 hy hx).2 (by omega)
    rw [Nat.add_comm (val xs)]
    exact h
end Go.Proofs.YtnppmigncjakeaaGreatDoor
