/-
  millracebig.sub of two numbers (without signs), the first at least the second: their difference; nothing that was there before is otherwise.
-/
import Derived.Test.YtdaapdpbnijefaaGreatDoorBig5
namespace Go.Proofs.YtdaapdpbnijefaaGreatDoor
open Go.RowKit Go.Deep

/-- What is borrowed, and what is left, of a word. -/
def brw (u e v : Nat) : Nat := if u < e + v then 1 else 0
def rst (u e v : Nat) : Nat := u + 4294967296 * brw u e v - e - v
theorem rst_eq {u e v : Nat} (hu : u < 4294967296) (he : e ≤ 1) (hv : v < 4294967296) : rst u e v + e + v = u + 4294967296 * brw u e v ∧ rst u e v < 4294967296 ∧ brw u e v ≤ 1 := by
  unfold rst brw
  split <;> omega
theorem sub_w2 {u e v : Nat} (hu : u < 4294967296) (he : e ≤ 1) (hv : v < 4294967296) : IntKind.u64.wrap (IntKind.u64.wrap ((u : Int) - e) - v) / 9223372036854775808 = (brw u e v : Nat) ∧ IntKind.u64.wrap (IntKind.u64.wrap ((u : Int) - e) - v) % 4294967296 = (rst u e v : Nat) := by
  rw [IntKind.wrap_u64, IntKind.wrap_u64]
  unfold rst brw
  split <;> constructor <;> omega
theorem sub_w1 {u e : Nat} (hu : u < 4294967296) (he : e ≤ 1) : IntKind.u64.wrap ((u : Int) - e) / 9223372036854775808 = (brw u e 0 : Nat) ∧ IntKind.u64.wrap ((u : Int) - e) % 4294967296 = (rst u e 0 : Nat) := by
  rw [IntKind.wrap_u64]
  unfold rst brw
  split <;> constructor <;> omega
theorem sub_step {p r0 c x y s t d e : Nat} (h : r0 + t = s + p * c) (hd : d + c + y = x + 4294967296 * e) : r0 + p * d + (t + p * y) = s + p * x + p * 4294967296 * e := by
  have h1 : p * (d + c + y) = p * (x + 4294967296 * e) := by rw [hd]
  rw [Nat.mul_add, Nat.mul_add, Nat.mul_add, ← Nat.mul_assoc] at h1
  omega
theorem sub_next {xs ys rs : List Nat} {k e u v : Nat} (h : rs.length = k ∧ (∀ u ∈ rs, u < 4294967296) ∧ val rs + val (ys.take k) = val (xs.take k) + 4294967296 ^ k * e) (hu : xs[k]? = some u) (hv : wordAt ys k = v) (u1 : u < 4294967296) (e1 : e ≤ 1) (v1 : v < 4294967296) :
    (rs ++ [rst u e v]).length = k + 1 ∧ (∀ x ∈ rs ++ [rst u e v], x < 4294967296) ∧ val (rs ++ [rst u e v]) + val (ys.take (k + 1)) = val (xs.take (k + 1)) + 4294967296 ^ (k + 1) * brw u e v := by
  obtain ⟨h1, h2, h3⟩ := h
  obtain ⟨q1, q2, _⟩ := rst_eq u1 e1 v1
  refine ⟨by simp [h1], ?_, ?_⟩
  · intro x hx
    rcases List.mem_append.1 hx with hx | hx
    · exact h2 x hx
    · simp at hx; omega
  · rw [val_snoc, h1, val_take_succ hu, val_take_wordAt, hv, Nat.pow_succ]
    exact sub_step h3 q1

set_option maxHeartbeats 4000000 in
set_option maxRecDepth 100000 in
theorem sub_long (x y : Option Addr) (c d : Nat) (xs ys : List Nat) (w : World) (hl : ys.length ≤ xs.length) (h1 : xs.length ≤ 100000) (hx : ∀ u ∈ xs, u < 4294967296) (hy : ∀ u ∈ ys, u < 4294967296) (hge : val ys ≤ val xs)
    (cx : xs = [] ∨ ∃ b off, x = some ⟨b, off, none⟩ ∧ ∀ (i u : Nat), xs[i]? = some u → w.cell? ⟨b, off + i, none⟩ = some (.int .u32 (u : Int)))
    (cy : ys = [] ∨ ∃ b off, y = some ⟨b, off, none⟩ ∧ ∀ (i u : Nat), ys[i]? = some u → w.cell? ⟨b, off + i, none⟩ = some (.int .u32 (u : Int))) :
    Calls Tryz.prog 107 #[.slice x xs.length c, .slice y ys.length d] w fun e w' => ∃ v, e = .returned v ∧ NatAt w' v (val xs - val ys) ∧ Below w.heap.size w w' := by
  have HX : Hid (∀ u ∈ xs, u < 4294967296) := hx
  have HY : Hid (∀ u ∈ ys, u < 4294967296) := hy
  have CX : Hid (xs = [] ∨ ∃ b off, x = some ⟨b, off, none⟩ ∧ ∀ (i u : Nat), xs[i]? = some u → w.cell? ⟨b, off + i, none⟩ = some (.int .u32 (u : Int))) := cx
  have CY : Hid (ys = [] ∨ ∃ b off, y = some ⟨b, off, none⟩ ∧ ∀ (i u : Nat), ys[i]? = some u → w.cell? ⟨b, off + i, none⟩ = some (.int .u32 (u : Int))) := cy
  generalize hn : xs.length = n at *
  generalize hm : ys.length = m at *
  have HN : Hid (xs.length = n) := hn
  have HM : Hid (ys.length = m) := hm
  have hmk := run_make_row' (P := Tryz.prog) 100 141 (.int .u32 0) 4 Tryz.underlying100 infoU32' rfl .i64 .i64 n (by omega) (by omega)
  have HG : Hid (val ys ≤ val xs) := hge
  clear hn hm hx hy cx cy hge
  go_enter Tryz.func107, Tryz.ntmps107
  go_wp2
  go_loopw [6, 7] (fun t i wr => ∃ (k e : Nat) (rs : List Nat), k ≤ n ∧ i = .int .i64 k ∧ t = .int .u64 (e : Int) ∧ e ≤ 1 ∧ rs.length = k ∧ (∀ u ∈ rs, u < 4294967296) ∧ val rs + val (ys.take k) = val (xs.take k) + 4294967296 ^ k * e ∧ RowW wr w.heap.size n rs ∧ Below w.heap.size w wr) (fun _ i _ => n - (intOf i).toNat)
  case atStart =>
    refine ⟨0, 0, [], Nat.zero_le _, rfl, rfl, by omega, rfl, by simp, by simp [val], ?_, (Below.refl _ _).alloc (Nat.le_refl _) _⟩
    exact (World.rowIs_made w (.int .u32 0) n 141).congr fun i _ => by simp [List.getD]
  case round =>
    obtain ⟨k, e, rs, hk, rfl, rfl, he, hrl, hrw, hval, hrow, hb⟩ := hrel
    have HR : Hid (rs.length = k ∧ (∀ u ∈ rs, u < 4294967296) ∧ val rs + val (ys.take k) = val (xs.take k) + 4294967296 ^ k * e) := ⟨hrl, hrw, hval⟩
    have HW : Hid (RowW wr w.heap.size n rs) := hrow
    clear hrl hrw hval hrow
    have hsz := hb.size
    by_cases hlt : k < n
    · obtain ⟨u, hu⟩ : ∃ u, xs[k]? = some u := ⟨_, List.getElem?_eq_getElem (by have := HN.out; omega)⟩
      rcases CX.out with hnil | ⟨b1, o1, hx, cx⟩
      · subst hnil; simp at hu
      subst hx
      have c1 := cell_below' hb (cx k u hu)
      have u1 := HX.out u (List.mem_of_getElem? hu)
      have HU : Hid (xs[k]? = some u) := hu
      have hk0 : (0 : Int) ≤ (k : Int) := by omega
      have hkn : (k : Int) < (n : Int) := by omega
      have w1 := World.rowIs.cell HW.out (show k < n by omega)
      have w2 := World.rowIs.frozen HW.out k
      clear hu cx
      by_cases hky : k < m
      · obtain ⟨v, hv⟩ : ∃ v, ys[k]? = some v := ⟨_, List.getElem?_eq_getElem (by have := HM.out; omega)⟩
        rcases CY.out with hnil | ⟨b2, o2, hy, cy⟩
        · subst hnil; simp at hv
        subst hy
        have c2 := cell_below' hb (cy k v hv)
        have v1 := HY.out v (List.mem_of_getElem? hv)
        have HV : Hid (wordAt ys k = v) := by
          have : wordAt ys k = v := by simp [wordAt, List.getD, hv]
          exact this
        have hkm : (k : Int) < (m : Int) := by omega
        clear hv cy
        go_wp2
        go_roundw
        case rel =>
          obtain ⟨q1, q2⟩ := sub_w2 u1 he v1
          rw [q1, q2]
          obtain ⟨n1, n2, n3⟩ := sub_next HR.out HU.out HV.out u1 he v1
          exact ⟨k + 1, _, _, by omega, by go_num, rfl, (rst_eq u1 he v1).2.2, n1, n2, n3, HW.out.set HR.out.1, hb.setCell (Nat.le_refl _) _⟩
        case measure => simp [intOf]; omega
      · have hkm : ¬ (k : Int) < (m : Int) := by omega
        have HV : Hid (wordAt ys k = 0) := by
          have : wordAt ys k = 0 := by simp [wordAt, List.getD, List.getElem?_eq_none (show ys.length ≤ k by have := HM.out; omega)]
          exact this
        go_wp2
        go_roundw
        case rel =>
          obtain ⟨q1, q2⟩ := sub_w1 u1 he
          rw [q1, q2]
          obtain ⟨n1, n2, n3⟩ := sub_next HR.out HU.out HV.out u1 he (by omega)
          exact ⟨k + 1, _, _, by omega, by go_num, rfl, (rst_eq u1 he (by omega)).2.2, n1, n2, n3, HW.out.set HR.out.1, hb.setCell (Nat.le_refl _) _⟩
        case measure => simp [intOf]; omega
    · have HF : Hid (rs.length = n ∧ (∀ x ∈ rs, x < 4294967296) ∧ val rs = val xs - val ys) := by
        obtain ⟨h1', h2, h3⟩ := HR.out
        have hkn : k = n := by omega
        subst hkn
        rw [List.take_of_length_le (l := xs) (by have := HN.out; omega), List.take_of_length_le (l := ys) (by have := HM.out; omega)] at h3
        have hg := HG.out
        have hlt2 := val_lt h2
        rw [h1'] at hlt2
        refine ⟨h1', h2, ?_⟩
        have he0 : e = 0 := by
          rcases Nat.eq_zero_or_pos e with h | h
          · exact h
          · exfalso
            have : e = 1 := by omega
            subst this
            omega
        subst he0
        omega
      go_wp2_with fail
      refine (trim_any _ (HW.out.wordsAt HF.out.1 (by unfold maxLen; omega)) HF.out.2.1 (by rw [HF.out.1]; omega)).mono ?_
      rintro e' w2' ⟨v, rfl, hv, rfl⟩
      have HV2 : Hid (NatAt w2' v (val xs - val ys)) := by
        rw [HF.out.2.2] at hv
        exact hv
      clear hv
      go_wp2
      go_ret
      exact ⟨_, rfl, HV2.out, hb⟩

theorem len_mono {a b : List Nat} (ha : canon a) (hb : canon b) (h : val a ≤ val b) : a.length ≤ b.length := by
  rcases Nat.lt_or_ge b.length a.length with h1 | h1
  · have := val_lt_len hb ha h1; omega
  · exact h1
theorem sub_any {v1 v2 : Value} {n m : Nat} (w : World) (h1 : NatAt w v1 n) (h2 : NatAt w v2 m) (hn : n < 4294967296 ^ 100) (hm : m ≤ n) :
    Calls Tryz.prog 107 #[v1, v2] w fun e w' => ∃ v, e = .returned v ∧ NatAt w' v (n - m) ∧ Below w.heap.size w w' := by
  obtain ⟨xs, ⟨x, c, rfl, _, _, hx⟩, cx, rfl, lx⟩ := h1
  obtain ⟨ys, ⟨y, d, rfl, _, _, hy⟩, cy, rfl, ly⟩ := h2
  have l1 := len_le cx hn
  exact sub_long x y c d xs ys w (len_mono cy cx hm) (by omega) cx.1 cy.1 hm hx hy
end Go.Proofs.YtdaapdpbnijefaaGreatDoor
