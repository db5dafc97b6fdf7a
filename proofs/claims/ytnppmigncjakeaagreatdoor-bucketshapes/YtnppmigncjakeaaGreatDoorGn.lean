/-
  millracebig.sub of two numbers (without signs), the first at least the second: their difference; nothing that was there before is otherwise.
  millracebig.mul of two numbers (without signs): their product; nothing that was there before is otherwise.
-/
import Derived.Test.YtnppmigncjakeaaGreatDoorGl
namespace Go.Proofs.YtnppmigncjakeaaGreatDoor
open Go.RowKit Go.Deep

/-- What is borrowed, and what is left, of a word. -/
def brw (u e v : Nat) : Nat := if u < e + v then 1 else 0
def rst (u e v : Nat) : Nat := u + 4294967296 * brw u e v - e - v
theorem rst_eq {u e v : Nat} (hu : u < 4294967296) (he : e ≤ 1) (hv : v < 4294967296) : rst u e v + e + v = u + 4294967296 * brw u e v ∧ rst u e v < 4294967296 ∧ brw u e v ≤ 1 := by
  unfold rst brw
  split <;> omega
theorem sub_w2 {u e v : Nat} (hu : u < 4294967296) (he : e ≤ 1) (hv : v < 4294967296) : IntKind.u64.wrap (IntKind.u64.wrap ((u : Int) - e) - v) / 9223372036854775808 = (brw u e v : Nat) ∧ IntKind.u64.wrap (IntKind.u64.wrap ((u : Int) - e) - v) % 4294967296 = (rst u e v : Nat) := by
  rw [IntKind.wrap_u64, IntKind.wrap_u64]
  unfold rst brw
  split <;> constructor <;> omega
theorem sub_w1 {u e : Nat} (hu : u < 4294967296) (he : e ≤ 1) : IntKind.u64.wrap ((u : Int) - e) / 9223372036854775808 = (brw u e 0 : Nat) ∧ IntKind.u64.wrap ((u : Int) - e) % 4294967296 = (rst u e 0 : Nat) := by
  rw [IntKind.wrap_u64]
  unfold rst brw
  split <;> constructor <;> omega
theorem sub_step {p r0 c x y s t d e : Nat} (h : r0 + t = s + p * c) (hd : d + c + y = x + 4294967296 * e) : r0 + p * d + (t + p * y) = s + p * x + p * 4294967296 * e := by
  have h1 : p * (d + c + y) = p * (x + 4294967296 * e) := by rw [hd]
  rw [Nat.mul_add, Nat.mul_add, Nat.mul_add, ← Nat.mul_assoc] at h1
  omega
theorem sub_next {xs ys rs : List Nat} {k e u v : Nat} (h : rs.length = k ∧ (∀ u ∈ rs, u < 4294967296) ∧ val rs + val (ys.take k) = val (xs.take k) + 4294967296 ^ k * e) (hu : xs[k]? = some u) (hv : wordAt ys k = v) (u1 : u < 4294967296) (e1 : e ≤ 1) (v1 : v < 4294967296) :
    (rs ++ [rst u e v]).length = k + 1 ∧ (∀ x ∈ rs ++ [rst u e v], x < 4294967296) ∧ val (rs ++ [rst u e v]) + val (ys.take (k + 1)) = val (xs.take (k + 1)) + 4294967296 ^ (k + 1) * brw u e v := by
  obtain ⟨h1, h2, h3⟩ := h
  obtain ⟨q1, q2, _⟩ := rst_eq u1 e1 v1
  refine ⟨by simp [h1], ?_, ?_⟩
  · intro x hx
    rcases List.mem_append.1 hx with hx | hx
    · exact h2 x hx
    · simp at hx; omega
  · rw [val_snoc, h1, val_take_succ hu, val_take_wordAt, hv, Nat.pow_succ]
    exact sub_step h3 q1

set_option maxHeartbeats 4000000 in
set_option maxRecDepth 100000 in
theorem sub_long (x y : Option Addr) (c d : Nat) (xs ys : List Nat) (w : World) (hl : ys.length ≤ xs.length) (h1 : xs.length ≤ 100000) (hx : ∀ u ∈ xs, u < 4294967296) (hy : ∀ u ∈ ys, u < 4294967296) (hge : val ys ≤ val xs)
    (cx : xs = [] ∨ ∃ b off, x = some ⟨b, off, none⟩ ∧ ∀ (i u : Nat), xs[i]? = some u → w.cell? ⟨b, off + i, none⟩ = some (.int .u32 (u : Int)))
    (cy : ys = [] ∨ ∃ b off, y = some ⟨b, off, none⟩ ∧ ∀ (i u : Nat), ys[i]? = some u → w.cell? ⟨b, off + i, none⟩ = some (.int .u32 (u : Int))) :
    Calls Tryz.prog 107 #[.slice x xs.length c, .slice y ys.length d] w fun e w' => ∃ v, e = .returned v ∧ NatAt w' v (val xs - val ys) ∧ Below w.heap.size w w' := by
  have HX : Hid (∀ u ∈ xs, u < 4294967296) := hx
  have HY : Hid (∀ u ∈ ys, u < 4294967296) := hy
  have CX : Hid (xs = [] ∨ ∃ b off, x = some ⟨b, off, none⟩ ∧ ∀ (i u : Nat), xs[i]? = some u → w.cell? ⟨b, off + i, none⟩ = some (.int .u32 (u : Int))) := cx
  have CY : Hid (ys = [] ∨ ∃ b off, y = some ⟨b, off, none⟩ ∧ ∀ (i u : Nat), ys[i]? = some u → w.cell? ⟨b, off + i, none⟩ = some (.int .u32 (u : Int))) := cy
  generalize hn : xs.length = n at *
  generalize hm : ys.length = m at *
  have HN : Hid (xs.length = n) := hn
  have HM : Hid (ys.length = m) := hm
  have hmk := run_make_row' (P := Tryz.prog) 100 141 (.int .u32 0) 4 Tryz.underlying100 infoU32' rfl .i64 .i64 n (by omega) (by omega)
  have HG : Hid (val ys ≤ val xs) := hge
  clear hn hm hx hy cx cy hge
  go_enter Tryz.func107, Tryz.ntmps107
  go_wp2
  go_loopw [6, 7] (fun t i wr => ∃ (k e : Nat) (rs : List Nat), k ≤ n ∧ i = .int .i64 k ∧ t = .int .u64 (e : Int) ∧ e ≤ 1 ∧ rs.length = k ∧ (∀ u ∈ rs, u < 4294967296) ∧ val rs + val (ys.take k) = val (xs.take k) + 4294967296 ^ k * e ∧ RowW wr w.heap.size n rs ∧ Below w.heap.size w wr) (fun _ i _ => n - (intOf i).toNat)
  case atStart =>
    refine ⟨0, 0, [], Nat.zero_le _, rfl, rfl, by omega, rfl, by simp, by simp [val], ?_, (Below.refl _ _).alloc (Nat.le_refl _) _⟩
    exact (World.rowIs_made w (.int .u32 0) n 141).congr fun i _ => by simp [List.getD]
  case round =>
    obtain ⟨k, e, rs, hk, rfl, rfl, he, hrl, hrw, hval, hrow, hb⟩ := hrel
    have HR : Hid (rs.length = k ∧ (∀ u ∈ rs, u < 4294967296) ∧ val rs + val (ys.take k) = val (xs.take k) + 4294967296 ^ k * e) := ⟨hrl, hrw, hval⟩
    have HW : Hid (RowW wr w.heap.size n rs) := hrow
    clear hrl hrw hval hrow
    have hsz := hb.size
    by_cases hlt : k < n
    · obtain ⟨u, hu⟩ : ∃ u, xs[k]? = some u := ⟨_, List.getElem?_eq_getElem (by have := HN.out; omega)⟩
      rcases CX.out with hnil | ⟨b1, o1, hx, cx⟩
      · subst hnil; simp at hu
      subst hx
      have c1 := cell_below' hb (cx k u hu)
      have u1 := HX.out u (List.mem_of_getElem? hu)
      have HU : Hid (xs[k]? = some u) := hu
      have hk0 : (0 : Int) ≤ (k : Int) := by omega
      have hkn : (k : Int) < (n : Int) := by omega
      have w1 := World.rowIs.cell HW.out (show k < n by omega)
      have w2 := World.rowIs.frozen HW.out k
      clear hu cx
      by_cases hky : k < m
      · obtain ⟨v, hv⟩ : ∃ v, ys[k]? = some v := ⟨_, List.getElem?_eq_getElem (by have := HM.out; omega)⟩
        rcases CY.out with hnil | ⟨b2, o2, hy, cy⟩
        · subst hnil; simp at hv
        subst hy
        have c2 := cell_below' hb (cy k v hv)
        have v1 := HY.out v (List.mem_of_getElem? hv)
        have HV : Hid (wordAt ys k = v) := by
          have : wordAt ys k = v := by simp [wordAt, List.getD, hv]
          exact this
        have hkm : (k : Int) < (m : Int) := by omega
        clear hv cy
        go_wp2
        go_roundw
        case rel =>
          obtain ⟨q1, q2⟩ := sub_w2 u1 he v1
          rw [q1, q2]
          obtain ⟨n1, n2, n3⟩ := sub_next HR.out HU.out HV.out u1 he v1
          exact ⟨k + 1, _, _, by omega, by go_num, rfl, (rst_eq u1 he v1).2.2, n1, n2, n3, HW.out.set HR.out.1, hb.setCell (Nat.le_refl _) _⟩
        case measure => simp [intOf]; omega
      · have hkm : ¬ (k : Int) < (m : Int) := by omega
        have HV : Hid (wordAt ys k = 0) := by
          have : wordAt ys k = 0 := by simp [wordAt, List.getD, List.getElem?_eq_none (show ys.length ≤ k by have := HM.out; omega)]
          exact this
        go_wp2
        go_roundw
        case rel =>
          obtain ⟨q1, q2⟩ := sub_w1 u1 he
          rw [q1, q2]
          obtain ⟨n1, n2, n3⟩ := sub_next HR.out HU.out HV.out u1 he (by omega)
          exact ⟨k + 1, _, _, by omega, by go_num, rfl, (rst_eq u1 he (by omega)).2.2, n1, n2, n3, HW.out.set HR.out.1, hb.setCell (Nat.le_refl _) _⟩
        case measure => simp [intOf]; omega
    · have HF : Hid (rs.length = n ∧ (∀ x ∈ rs, x < 4294967296) ∧ val rs = val xs - val ys) := by
        obtain ⟨h1', h2, h3⟩ := HR.out
        have hkn : k = n := by omega
        subst hkn
        rw [List.take_of_length_le (l := xs) (by have := HN.out; omega), List.take_of_length_le (l := ys) (by have := HM.out; omega)] at h3
        have hg := HG.out
        have hlt2 := val_lt h2
        rw [h1'] at hlt2
        refine ⟨h1', h2, ?_⟩
        have he0 : e = 0 := by
          rcases Nat.eq_zero_or_pos e with h | h
          · exact h
          · exfalso
            have : e = 1 := by omega
            subst this
            omega
        subst he0
        omega
      go_wp2_with fail
      refine (trim_any _ (HW.out.wordsAt HF.out.1 (by unfold maxLen; omega)) HF.out.2.1 (by rw [HF.out.1]; omega)).mono ?_
      rintro e' w2' ⟨v, rfl, hv, rfl⟩
      have HV2 : Hid (NatAt w2' v (val xs - val ys)) := by
        rw [HF.out.2.2] at hv
        exact hv
      clear hv
      go_wp2
      go_ret
      exact ⟨_, rfl, HV2.out, hb⟩

theorem len_mono {a b : List Nat} (ha : canon a) (hb : canon b) (h : val a ≤ val b) : a.length ≤ b.length := by
  rcases Nat.lt_or_ge b.length a.length with h1 | h1
  · have := val_lt_len hb ha h1; omega
  · exact h1
theorem sub_any {v1 v2 : Value} {n m : Nat} (w : World) (h1 : NatAt w v1 n) (h2 : NatAt w v2 m) (hn : n < 4294967296 ^ 100) (hm : m ≤ n) :
    Calls Tryz.prog 107 #[v1, v2] w fun e w' => ∃ v, e = .returned v ∧ NatAt w' v (n - m) ∧ Below w.heap.size w w' := by
  obtain ⟨xs, ⟨x, c, rfl, _, _, hx⟩, cx, rfl, lx⟩ := h1
  obtain ⟨ys, ⟨y, d, rfl, _, _, hy⟩, cy, rfl, ly⟩ := h2
  have l1 := len_le cx hn
  exact sub_long x y c d xs ys w (len_mono cy cx hm) (by omega) cx.1 cy.1 hm hx hy
end Go.Proofs.YtnppmigncjakeaaGreatDoor
namespace Go.Proofs.YtnppmigncjakeaaGreatDoor
open Go.RowKit Go.Deep

theorem val_set {rs : List Nat} {k r d : Nat} (h : rs[k]? = some r) : val (rs.set k d) + 4294967296 ^ k * r = val rs + 4294967296 ^ k * d := by
  induction rs generalizing k with
  | nil => simp at h
  | cons a l ih =>
    cases k with
    | zero => simp at h; subst h; simp [val]; omega
    | succ k =>
      have := ih (k := k) (by simpa using h)
      simp only [List.set_cons_succ, val, Nat.pow_succ]
      have e1 : 4294967296 ^ k * 4294967296 * r = 4294967296 * (4294967296 ^ k * r) := by rw [Nat.mul_comm (4294967296 ^ k), Nat.mul_assoc]
      have e2 : 4294967296 ^ k * 4294967296 * d = 4294967296 * (4294967296 ^ k * d) := by rw [Nat.mul_comm (4294967296 ^ k), Nat.mul_assoc]
      rw [e1, e2]
      omega
theorem RowW.put {w : World} {b n k d : Nat} {rs : List Nat} (h : RowW w b n rs) (hl : k < rs.length) : RowW (w.setCell ⟨b, k, none⟩ (.int .u32 (d : Int))) b n (rs.set k d) := by
  refine (World.rowIs.set h k _).congr fun i _ => ?_
  by_cases hi : i = k
  · subst hi; simp [List.getD, hl]
  · rw [if_neg hi]
    simp only [List.getD, List.getElem?_set]
    rw [if_neg (fun e => hi e.symm)]
theorem mul_step {p R r d e c u y Y S : Nat} (hR : R + p * c = S) (hs : Y + p * r = R + p * d) (ht : d + 4294967296 * e = c + (u * y + r)) : Y + p * 4294967296 * e = S + p * (u * y) := by
  have h1 : p * (d + 4294967296 * e) = p * (c + (u * y + r)) := by rw [ht]
  rw [Nat.mul_add, Nat.mul_add, Nat.mul_add, ← Nat.mul_assoc] at h1
  omega
theorem mul_bound {u y r e : Nat} (hu : u < 4294967296) (hy : y < 4294967296) (hr : r < 4294967296) (he : e < 4294967296) : u * y ≤ 18446744065119617025 ∧ e + (u * y + r) < 18446744073709551616 := by
  have : u * y ≤ 4294967295 * 4294967295 := Nat.mul_le_mul (by omega) (by omega)
  omega

theorem mul_next {xs ys rs : List Nat} {i j n m e u y r : Nat} (h : rs.length = n + m ∧ (∀ u ∈ rs, u < 4294967296) ∧ (∀ j, i + m ≤ j → j < n + m → rs[j]? = some 0) ∧ val rs + 4294967296 ^ (i + j) * e = val (xs.take i) * val ys + u * 4294967296 ^ i * val (ys.take j)) (hy : ys[j]? = some y) (hr : rs[i + j]? = some r) (hj : j < m) :
    (rs.set (i + j) ((e + (u * y + r)) % 4294967296)).length = n + m ∧ (∀ x ∈ rs.set (i + j) ((e + (u * y + r)) % 4294967296), x < 4294967296) ∧ (∀ k, i + m ≤ k → k < n + m → (rs.set (i + j) ((e + (u * y + r)) % 4294967296))[k]? = some 0) ∧
      val (rs.set (i + j) ((e + (u * y + r)) % 4294967296)) + 4294967296 ^ (i + (j + 1)) * ((e + (u * y + r)) / 4294967296) = val (xs.take i) * val ys + u * 4294967296 ^ i * val (ys.take (j + 1)) := by
  obtain ⟨h1, h2, h3, h4⟩ := h
  refine ⟨by simp [h1], ?_, ?_, ?_⟩
  · intro x hx
    rcases List.mem_or_eq_of_mem_set hx with hx | hx
    · exact h2 x hx
    · omega
  · intro k hk1 hk2
    rw [List.getElem?_set, if_neg (by omega)]
    exact h3 k hk1 hk2
  · have hs := val_set (d := (e + (u * y + r)) % 4294967296) hr
    have := mul_step (u := u) (y := y) h4 hs (e := (e + (u * y + r)) / 4294967296) (by omega)
    rw [← Nat.add_assoc i j 1, Nat.pow_succ, this, val_take_succ hy, Nat.mul_add (u * 4294967296 ^ i), Nat.pow_add]
    have e1 : 4294967296 ^ i * 4294967296 ^ j * (u * y) = u * 4294967296 ^ i * (4294967296 ^ j * y) := by
      rw [Nat.mul_comm u (4294967296 ^ i), Nat.mul_assoc, Nat.mul_assoc, Nat.mul_left_comm (4294967296 ^ j) u y]
    rw [e1, Nat.add_assoc]
theorem mul_row {xs ys rs : List Nat} {i n m e u : Nat} (h : rs.length = n + m ∧ (∀ u ∈ rs, u < 4294967296) ∧ (∀ j, i + m ≤ j → j < n + m → rs[j]? = some 0) ∧ val rs + 4294967296 ^ (i + m) * e = val (xs.take i) * val ys + u * 4294967296 ^ i * val (ys.take m)) (hm : ys.length = m) (hu : xs[i]? = some u) (hi : i < n) (he : e < 4294967296) :
    (rs.set (i + m) e).length = n + m ∧ (∀ x ∈ rs.set (i + m) e, x < 4294967296) ∧ (∀ k, i + 1 + m ≤ k → k < n + m → (rs.set (i + m) e)[k]? = some 0) ∧ val (rs.set (i + m) e) = val (xs.take (i + 1)) * val ys := by
  obtain ⟨h1, h2, h3, h4⟩ := h
  refine ⟨by simp [h1], ?_, ?_, ?_⟩
  · intro x hx
    rcases List.mem_or_eq_of_mem_set hx with hx | hx
    · exact h2 x hx
    · omega
  · intro k hk1 hk2
    rw [List.getElem?_set, if_neg (by omega)]
    exact h3 k (by omega) hk2
  · have hs := val_set (d := e) (h3 (i + m) (Nat.le_refl _) (by omega))
    rw [List.take_of_length_le (l := ys) (by omega)] at h4
    rw [val_take_succ hu, Nat.add_mul, Nat.mul_comm (4294967296 ^ i) u]
    omega

set_option maxHeartbeats 8000000 in
set_option maxRecDepth 100000 in
theorem mul_some (b1 o1 b2 o2 c d : Nat) (xs ys : List Nat) (w : World) (h0 : 0 < xs.length) (h1 : xs.length ≤ 50000) (g0 : 0 < ys.length) (g1 : ys.length ≤ 50000) (hx : ∀ u ∈ xs, u < 4294967296) (hy : ∀ u ∈ ys, u < 4294967296)
    (cx : ∀ (i u : Nat), xs[i]? = some u → w.cell? ⟨b1, o1 + i, none⟩ = some (.int .u32 (u : Int)))
    (cy : ∀ (i u : Nat), ys[i]? = some u → w.cell? ⟨b2, o2 + i, none⟩ = some (.int .u32 (u : Int))) :
    Calls Tryz.prog 78 #[.slice (some ⟨b1, o1, none⟩) xs.length c, .slice (some ⟨b2, o2, none⟩) ys.length d] w fun e w' => ∃ v, e = .returned v ∧ NatAt w' v (val xs * val ys) ∧ Below w.heap.size w w' := by
  have HX : Hid (∀ u ∈ xs, u < 4294967296) := hx
  have HY : Hid (∀ u ∈ ys, u < 4294967296) := hy
  have CX : Hid (∀ (i u : Nat), xs[i]? = some u → w.cell? ⟨b1, o1 + i, none⟩ = some (.int .u32 (u : Int))) := cx
  have CY : Hid (∀ (i u : Nat), ys[i]? = some u → w.cell? ⟨b2, o2 + i, none⟩ = some (.int .u32 (u : Int))) := cy
  generalize hn : xs.length = n at *
  generalize hm : ys.length = m at *
  have HN : Hid (xs.length = n) := hn
  have HM : Hid (ys.length = m) := hm
  have hmk := run_make_row' (P := Tryz.prog) 100 141 (.int .u32 0) 4 Tryz.underlying100 infoU32' rfl .i64 .i64 (n + m) (by omega) (by omega)
  have hcast : ((n + m : Nat) : Int) = (n : Int) + (m : Int) := by omega
  rw [hcast] at hmk
  have hn0 : ((n : Int) == 0) = false := by simp; omega
  have hm0 : ((m : Int) == 0) = false := by simp; omega
  clear hn hm hx hy cx cy hcast
  go_enter Tryz.func78, Tryz.ntmps78
  go_wp2
  go_loopw [6] (fun t wr => ∃ (i : Nat) (rs : List Nat), i ≤ n ∧ t = .int .i64 i ∧ rs.length = n + m ∧ (∀ u ∈ rs, u < 4294967296) ∧ (∀ j, i + m ≤ j → j < n + m → rs[j]? = some 0) ∧ val rs = val (xs.take i) * val ys ∧ RowW wr w.heap.size (n + m) rs ∧ Below w.heap.size w wr) (fun t _ => n - (intOf t).toNat)
  case atStart =>
    refine ⟨0, List.replicate (n + m) 0, Nat.zero_le _, rfl, by simp, by simp, ?_, by simp [val, val_zeros], ?_, (Below.refl _ _).alloc (Nat.le_refl _) _⟩
    · intro j _ hj; simp [hj]
    · exact (World.rowIs_made w (.int .u32 0) (n + m) 141).congr fun i hi => by simp [List.getD, hi]
  case round =>
    obtain ⟨i, rs, hi, rfl, hrl, hrw, hrz, hval, hrow, hb⟩ := hrel
    by_cases hlt : i < n
    · obtain ⟨u, hu⟩ : ∃ u, xs[i]? = some u := ⟨_, List.getElem?_eq_getElem (by have := HN.out; omega)⟩
      have u1 := HX.out u (List.mem_of_getElem? hu)
      have HU : Hid (xs[i]? = some u) := hu
      have HI : Hid (∃ (e j : Nat) (rs : List Nat), j ≤ m ∧ e < 4294967296 ∧ (0 : Nat) = e ∧ j = 0 ∧ rs.length = n + m ∧ (∀ u ∈ rs, u < 4294967296) ∧ (∀ j, i + m ≤ j → j < n + m → rs[j]? = some 0) ∧ val rs + 4294967296 ^ (i + j) * e = val (xs.take i) * val ys + u * 4294967296 ^ i * val (ys.take j) ∧ RowW wr w.heap.size (n + m) rs) := ⟨0, 0, rs, by omega, by omega, rfl, rfl, hrl, hrw, hrz, by simp [val, hval], hrow⟩
      clear hrl hrw hrz hval hrow hu
      go_wp2
      go_loopw [7, 8] (fun s t wi => ∃ (e j : Nat) (rs : List Nat), j ≤ m ∧ s = .int .u64 (e : Int) ∧ t = .int .i64 j ∧ e < 4294967296 ∧ rs.length = n + m ∧ (∀ u ∈ rs, u < 4294967296) ∧ (∀ j, i + m ≤ j → j < n + m → rs[j]? = some 0) ∧ val rs + 4294967296 ^ (i + j) * e = val (xs.take i) * val ys + u * 4294967296 ^ i * val (ys.take j) ∧ RowW wi w.heap.size (n + m) rs ∧ Below w.heap.size w wi) (fun _ t _ => m - (intOf t).toNat)
      case atStart =>
        obtain ⟨e, j, rs, q1, q2, q3, q4, q5, q6, q7, q8, q9⟩ := HI.out
        subst q3 q4
        exact ⟨0, 0, rs, q1, rfl, rfl, q2, q5, q6, q7, q8, q9, hb⟩
      case round =>
        obtain ⟨e, j, rs, hj, rfl, rfl, he, hrl, hrw, hrz, hval, hrow, hbi⟩ := hrel
        have HR : Hid (rs.length = n + m ∧ (∀ u ∈ rs, u < 4294967296) ∧ (∀ j, i + m ≤ j → j < n + m → rs[j]? = some 0) ∧ val rs + 4294967296 ^ (i + j) * e = val (xs.take i) * val ys + u * 4294967296 ^ i * val (ys.take j)) := ⟨hrl, hrw, hrz, hval⟩
        have HW : Hid (RowW wr w.heap.size (n + m) rs) := hrow
        clear hrl hrw hrz hval hrow
        by_cases hjm : j < m
        · obtain ⟨y, hy⟩ : ∃ y, ys[j]? = some y := ⟨_, List.getElem?_eq_getElem (by have := HM.out; omega)⟩
          obtain ⟨r, hr⟩ : ∃ r, rs[i + j]? = some r := ⟨_, List.getElem?_eq_getElem (by have := HR.out.1; omega)⟩
          have y1 := HY.out y (List.mem_of_getElem? hy)
          have r1 := HR.out.2.1 r (List.mem_of_getElem? hr)
          have c1 := cell_below' hbi (CX.out i u HU.out)
          have c2 := cell_below' hbi (CY.out j y hy)
          have c3 : wr.cell? ⟨w.heap.size, i + j, none⟩ = some (.int .u32 (r : Int)) := by
            have := World.rowIs.cell HW.out (show i + j < n + m by omega)
            simpa [List.getD, hr] using this
          have c4 := World.rowIs.frozen HW.out (i + j)
          have HYj : Hid (ys[j]? = some y) := hy
          have HRj : Hid (rs[i + j]? = some r) := hr
          clear hy hr
          obtain ⟨m1, m2⟩ := mul_bound u1 y1 r1 he
          have p1 : (0 : Int) ≤ (i : Int) := by omega
          have p2 : (i : Int) < (n : Int) := by omega
          have p3 : (0 : Int) ≤ (j : Int) := by omega
          have p4 : (j : Int) < (m : Int) := by omega
          have p5 : (0 : Int) ≤ (i : Int) + (j : Int) := by omega
          have p6 : (i : Int) + (j : Int) < (n : Int) + (m : Int) := by omega
          have q1 : IntKind.i64.wrap ((i : Int) + (j : Int)) = (i : Int) + (j : Int) := by rw [IntKind.wrap_i64]; omega
          have ecast : ((u * y : Nat) : Int) = (u : Int) * (y : Int) := by simp
          have q2 : IntKind.u64.wrap ((u : Int) * (y : Int)) = (u : Int) * (y : Int) := by rw [IntKind.wrap_u64, ← ecast]; omega
          have q3 : IntKind.u64.wrap ((u : Int) * (y : Int) + (r : Int)) = (u : Int) * (y : Int) + (r : Int) := by rw [IntKind.wrap_u64, ← ecast]; omega
          have q4 : IntKind.u64.wrap ((e : Int) + ((u : Int) * (y : Int) + (r : Int))) = (e : Int) + ((u : Int) * (y : Int) + (r : Int)) := by rw [IntKind.wrap_u64, ← ecast]; omega
          clear ecast
          go_wp2
          go_quiet (fail)
          go_wp2
          go_roundw
          case rel =>
            have ec : (e : Int) + ((u : Int) * (y : Int) + (r : Int)) = ((e + (u * y + r) : Nat) : Int) := by simp
            rw [ec]
            have k1 : ((e + (u * y + r) : Nat) : Int) / 4294967296 = (((e + (u * y + r)) / 4294967296 : Nat) : Int) := by omega
            have k2 : ((e + (u * y + r) : Nat) : Int) % 4294967296 = (((e + (u * y + r)) % 4294967296 : Nat) : Int) := by omega
            rw [k1, k2]
            obtain ⟨n1, n2, n3, n4⟩ := mul_next HR.out HYj.out HRj.out hjm
            exact ⟨_, j + 1, _, by omega, rfl, by go_num, by omega, n1, n2, n3, n4, RowW.put (w := wr.drewN nq) HW.out (by have := HR.out.1; omega), (below_drewN hbi _).setCell (Nat.le_refl _) _⟩
          case measure => simp [intOf]; omega
        · have hjm' : j = m := by omega
          have HJ : Hid (j = m) := hjm'
          have c3 : ∃ z, wr.cell? ⟨w.heap.size, i + m, none⟩ = some z := ⟨_, World.rowIs.cell HW.out (show i + m < n + m by omega)⟩
          obtain ⟨z, c3⟩ := c3
          have c4 := World.rowIs.frozen HW.out (i + m)
          have p5 : (0 : Int) ≤ (i : Int) + (m : Int) := by omega
          have p6 : (i : Int) + (m : Int) < (n : Int) + (m : Int) := by omega
          have e1 : (e : Int) % 4294967296 = (e : Int) := by omega
          clear hjm'
          go_wp2
          go_roundw
          case rel =>
            have hr2 := HR.out
            rw [HJ.out] at hr2
            obtain ⟨n1, n2, n3, n4⟩ := mul_row hr2 HM.out HU.out hlt he
            exact ⟨i + 1, _, by omega, by go_num, n1, n2, n3, n4, HW.out.put (by have := HR.out.1; omega), hbi.setCell (Nat.le_refl _) _⟩
          case measure => simp [intOf]; omega
    · have hin : i = n := by omega
      have HF : Hid (rs.length = n + m ∧ (∀ x ∈ rs, x < 4294967296) ∧ val rs = val xs * val ys) := by
        refine ⟨hrl, hrw, ?_⟩
        rw [hval, hin, List.take_of_length_le (by have := HN.out; omega)]
      have HW : Hid (RowW wr w.heap.size (n + m) rs) := hrow
      clear hrl hrw hrz hval hrow
      go_wp2_with fail
      refine (trim_any _ (HW.out.wordsAt HF.out.1 (by unfold maxLen; omega)) HF.out.2.1 (by rw [HF.out.1]; omega)).mono ?_
      rintro e' w2' ⟨v, rfl, hv, rfl⟩
      have HV2 : Hid (NatAt w2' v (val xs * val ys)) := by
        rw [HF.out.2.2] at hv
        exact hv
      clear hv
      go_wp2
      go_ret
      exact ⟨_, rfl, HV2.out, hb⟩

theorem mul_zero (x y : Option Addr) (n m c d : Nat) (w : World) (h : n = 0 ∨ m = 0) (hn : n ≤ 1000000) (hm : m ≤ 1000000) : Calls Tryz.prog 78 #[.slice x n c, .slice y m d] w fun e w' => e = .returned (.slice none 0 0) ∧ w' = w := by
  by_cases h0 : n = 0
  · subst h0
    go_enter Tryz.func78, Tryz.ntmps78
    go_wp2
    go_ret
    exact ⟨rfl, rfl⟩
  · have h1 : m = 0 := by omega
    subst h1
    have hn0 : ((n : Int) == 0) = false := by simp; omega
    go_enter Tryz.func78, Tryz.ntmps78
    go_wp2
    go_ret
    exact ⟨rfl, rfl⟩

theorem natAt_nil (w : World) : NatAt w (.slice none 0 0) 0 := ⟨[], ⟨none, 0, rfl, by simp, by decide, Or.inl rfl⟩, canon_nil, rfl, by simp⟩
theorem mul_any {v1 v2 : Value} {n m : Nat} (w : World) (h1 : NatAt w v1 n) (h2 : NatAt w v2 m) (hn : n < 4294967296 ^ 100) (hm : m < 4294967296 ^ 100) :
    Calls Tryz.prog 78 #[v1, v2] w fun e w' => ∃ v, e = .returned v ∧ NatAt w' v (n * m) ∧ Below w.heap.size w w' := by
  obtain ⟨xs, ⟨x, c, rfl, _, _, hx⟩, cx, rfl, lx⟩ := h1
  obtain ⟨ys, ⟨y, d, rfl, _, _, hy⟩, cy, rfl, ly⟩ := h2
  have l1 := len_le cx hn
  have l2 := len_le cy hm
  by_cases h0 : xs.length = 0 ∨ ys.length = 0
  · refine (mul_zero x y _ _ c d w h0 lx ly).mono ?_
    rintro e w' ⟨rfl, rfl⟩
    refine ⟨_, rfl, ?_, Below.refl _ _⟩
    have : val xs * val ys = 0 := by
      rcases h0 with h | h
      · rw [List.length_eq_zero_iff.1 h]; simp [val]
      · rw [List.length_eq_zero_iff.1 h]; simp [val]
    rw [this]
    exact natAt_nil _
  · rcases hx with hx | ⟨b1, o1, rfl, hx⟩
    · exact absurd (Or.inl (by rw [hx]; rfl)) h0
    rcases hy with hy | ⟨b2, o2, rfl, hy⟩
    · exact absurd (Or.inr (by rw [hy]; rfl)) h0
    exact mul_some b1 o1 b2 o2 c d xs ys w (by omega) (by omega) (by omega) (by omega) cx.1 cy.1 hx hy

/-- plain of a number of at most two words. -/
theorem or_words (u v : Nat) (hu : u < 4294967296) : u ||| v * 4294967296 = u + v * 4294967296 := by
  rw [Nat.mul_comm, show (4294967296 : Nat) = 2 ^ 32 from rfl, Nat.or_comm, ← Nat.two_pow_add_eq_or_of_lt (by simpa using hu)]; omega
set_option maxHeartbeats 1000000 in
theorem plain_any {v : Value} {n : Nat} (w : World) (h : NatAt w v n) (hn : n < 18446744073709551616) :
    Calls Tryz.prog 109 #[v] w fun e w' => e = .returned (.int .u64 (n : Int)) ∧ w' = w := by
  obtain ⟨ws, ⟨x, c, rfl, _, _, hx⟩, cx, rfl, lx⟩ := h
  rcases canon_two cx hn with ⟨rfl, hv⟩ | ⟨u, rfl, hu0, hu1, hv⟩ | ⟨u, q, rfl, hu1, hq0, hq1, hv⟩
  · go_enter Tryz.func109, Tryz.ntmps109
    go_wp2
    go_ret
    exact ⟨rfl, rfl⟩
  · rcases hx with hx | ⟨b, o, rfl, hx⟩
    · cases hx
    have c0 := hx 0 u rfl
    rw [Nat.add_zero] at c0
    have HV : Hid (val [u] = u) := hv
    clear hv hx
    go_enter Tryz.func109, Tryz.ntmps109
    go_wp2
    go_ret
    exact ⟨by rw [HV.out]; rfl, rfl⟩
  · rcases hx with hx | ⟨b, o, rfl, hx⟩
    · cases hx
    have c0 := hx 0 u rfl
    have c1 := hx 1 q rfl
    rw [Nat.add_zero] at c0
    have HV : Hid (val [u, q] = u + 4294967296 * q) := hv
    clear hv hx
    go_enter Tryz.func109, Tryz.ntmps109
    go_wp2
    go_ret
    refine ⟨?_, rfl⟩
    have e1 : (q : Int) * 4294967296 = ((q * 4294967296 : Nat) : Int) := by simp
    have e2 : bits .or .u64 (u : Int) ((q : Int) * 4294967296) = ((val [u, q] : Nat) : Int) := by
      rw [e1, bits_or_u64_nat u (q * 4294967296) (by omega) (by omega), or_words u q hu1, HV.out]
      omega
    show Ending.returned (.int .u64 (bits .or .u64 (u : Int) ((q : Int) * 4294967296))) = _
    rw [e2]
end Go.Proofs.YtnppmigncjakeaaGreatDoor
