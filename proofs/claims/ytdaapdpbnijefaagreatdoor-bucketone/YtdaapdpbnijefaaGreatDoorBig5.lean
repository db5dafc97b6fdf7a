/-
  millracebig.add, sub of two numbers (without signs): their sum, their difference (the first is at least the second); nothing that was there before is otherwise.
-/
import Derived.Test.YtdaapdpbnijefaaGreatDoorBig4
import Derived.Deep.OwnRows
namespace Go.Proofs.YtdaapdpbnijefaaGreatDoor
open Go.RowKit Go.Deep

/-- So many words of a row that the call makes, the rest 0. -/
def RowW (w : World) (b n : Nat) (rs : List Nat) : Prop := w.rowIs b 141 n (fun j => .int .u32 ((rs.getD j 0 : Nat) : Int))
theorem RowW.set {w : World} {b n k d : Nat} {rs : List Nat} (h : RowW w b n rs) (hl : rs.length = k) : RowW (w.setCell ⟨b, k, none⟩ (.int .u32 (d : Int))) b n (rs ++ [d]) := by
  refine (World.rowIs.set h k _).congr fun i _ => ?_
  by_cases hi : i = k
  · subst hi; subst hl; simp [List.getD]
  · rw [if_neg hi]
    rcases Nat.lt_or_ge i k with h' | h'
    · simp [List.getD, List.getElem?_append_left (by omega : i < rs.length)]
    · simp only [List.getD]
      rw [List.getElem?_eq_none (by omega), List.getElem?_eq_none (by simp; omega)]
theorem RowW.wordsAt {w : World} {b n : Nat} {rs : List Nat} (h : RowW w b n rs) (hl : rs.length = n) (hm : n ≤ maxLen) : WordsAt w (.slice (some ⟨b, 0, none⟩) n n) rs := by
  refine ⟨_, _, by rw [hl], by omega, hm, Or.inr ⟨b, 0, rfl, ?_⟩⟩
  intro i u hu
  have hi := (List.getElem?_eq_some_iff.1 hu).1
  rw [Nat.zero_add, World.rowIs.cell h (by omega)]
  simp [List.getD, hu]

theorem val_take_succ {ws : List Nat} {k u : Nat} (h : ws[k]? = some u) : val (ws.take (k + 1)) = val (ws.take k) + 4294967296 ^ k * u := by
  have hk := (List.getElem?_eq_some_iff.1 h).1
  rw [List.take_add_one, h, val_append]
  simp only [Option.toList_some, val, Nat.mul_zero, Nat.add_zero, List.length_take]
  rw [Nat.min_eq_left (by omega)]
theorem val_snoc (rs : List Nat) (d : Nat) : val (rs ++ [d]) = val rs + 4294967296 ^ rs.length * d := by
  rw [val_append]; simp [val]
theorem add_step {p r c x y s t d e : Nat} (h : r + p * c = s + t) (hd : d + 4294967296 * e = c + x + y) : r + p * d + p * 4294967296 * e = (s + p * x) + (t + p * y) := by
  have h1 : p * (d + 4294967296 * e) = p * (c + x + y) := by rw [hd]
  rw [Nat.mul_add, Nat.mul_add, Nat.mul_add, ← Nat.mul_assoc] at h1
  omega

theorem cell_below' {W w : World} {a : Addr} {v : Value} (hb : Below W.heap.size W w) (h : W.cell? a = some v) : w.cell? a = some v := by
  rw [hb.cell (lt_of_cell h)]; exact h
theorem infoU32' : (Tryz.prog.info? 141).map (fun i => (i.zero, i.size, i.bytes)) = some (some (.int .u32 0), 1, 4) := by kernel_rfl

/-- A word of ys, or 0 behind them. -/
def wordAt (ys : List Nat) (k : Nat) : Nat := ys.getD k 0
theorem val_take_wordAt (ys : List Nat) (k : Nat) : val (ys.take (k + 1)) = val (ys.take k) + 4294967296 ^ k * wordAt ys k := by
  unfold wordAt
  cases h : ys[k]? with
  | none =>
    have : ys.length ≤ k := List.getElem?_eq_none_iff.1 h
    rw [List.take_of_length_le (by omega), List.take_of_length_le (by omega)]
    simp [List.getD, h]
  | some u => rw [val_take_succ h]; simp [List.getD, h]

theorem len_le {ws : List Nat} {k : Nat} (h : canon ws) (hv : val ws < 4294967296 ^ k) : ws.length ≤ k := by
  rcases Nat.lt_or_ge k ws.length with h1 | h1
  · exfalso
    have h2 := canon_ge h (by intro e; subst e; simp at h1)
    have h3 : 4294967296 ^ k ≤ 4294967296 ^ (ws.length - 1) := Nat.pow_le_pow_right (by omega) (by omega)
    omega
  · exact h1
theorem add_next {xs ys rs : List Nat} {k e u v : Nat} (h : rs.length = k ∧ (∀ u ∈ rs, u < 4294967296) ∧ val rs + 4294967296 ^ k * e = val (xs.take k) + val (ys.take k)) (hu : xs[k]? = some u) (hv : wordAt ys k = v) :
    (rs ++ [(e + u + v) % 4294967296]).length = k + 1 ∧ (∀ x ∈ rs ++ [(e + u + v) % 4294967296], x < 4294967296) ∧ val (rs ++ [(e + u + v) % 4294967296]) + 4294967296 ^ (k + 1) * ((e + u + v) / 4294967296) = val (xs.take (k + 1)) + val (ys.take (k + 1)) := by
  obtain ⟨h1, h2, h3⟩ := h
  refine ⟨by simp [h1], ?_, ?_⟩
  · intro x hx
    rcases List.mem_append.1 hx with hx | hx
    · exact h2 x hx
    · simp at hx; omega
  · rw [val_snoc, h1, val_take_succ hu, val_take_wordAt, hv, Nat.pow_succ]
    exact add_step h3 (by omega)

set_option maxHeartbeats 4000000 in
set_option maxRecDepth 100000 in
theorem add_long (x y : Option Addr) (c d : Nat) (xs ys : List Nat) (w : World) (hl : ys.length ≤ xs.length) (h1 : xs.length ≤ 100000) (hx : ∀ u ∈ xs, u < 4294967296) (hy : ∀ u ∈ ys, u < 4294967296)
    (cx : xs = [] ∨ ∃ b off, x = some ⟨b, off, none⟩ ∧ ∀ (i u : Nat), xs[i]? = some u → w.cell? ⟨b, off + i, none⟩ = some (.int .u32 (u : Int)))
    (cy : ys = [] ∨ ∃ b off, y = some ⟨b, off, none⟩ ∧ ∀ (i u : Nat), ys[i]? = some u → w.cell? ⟨b, off + i, none⟩ = some (.int .u32 (u : Int))) :
    Calls Tryz.prog 106 #[.slice x xs.length c, .slice y ys.length d] w (fun e w' => ∃ v, e = .returned v ∧ NatAt w' v (val xs + val ys) ∧ Below w.heap.size w w') ∧
    (ys.length < xs.length → Calls Tryz.prog 106 #[.slice y ys.length d, .slice x xs.length c] w (fun e w' => ∃ v, e = .returned v ∧ NatAt w' v (val xs + val ys) ∧ Below w.heap.size w w')) := by
  have HX : Hid (∀ u ∈ xs, u < 4294967296) := hx
  have HY : Hid (∀ u ∈ ys, u < 4294967296) := hy
  have CX : Hid (xs = [] ∨ ∃ b off, x = some ⟨b, off, none⟩ ∧ ∀ (i u : Nat), xs[i]? = some u → w.cell? ⟨b, off + i, none⟩ = some (.int .u32 (u : Int))) := cx
  have CY : Hid (ys = [] ∨ ∃ b off, y = some ⟨b, off, none⟩ ∧ ∀ (i u : Nat), ys[i]? = some u → w.cell? ⟨b, off + i, none⟩ = some (.int .u32 (u : Int))) := cy
  generalize hn : xs.length = n at *
  generalize hm : ys.length = m at *
  have HN : Hid (xs.length = n) := hn
  have HM : Hid (ys.length = m) := hm
  have hmk := run_make_row' (P := Tryz.prog) 100 141 (.int .u32 0) 4 Tryz.underlying100 infoU32' rfl .i64 .i64 (n + 1) (by omega) (by omega)
  have hcast : ((n + 1 : Nat) : Int) = (n : Int) + 1 := by omega
  rw [hcast] at hmk
  clear hn hm hx hy cx cy
  refine ⟨?_, fun hsw => ?_⟩
  all_goals
    go_enter Tryz.func106, Tryz.ntmps106
    go_wp2
    go_loopw [6, 7] (fun t i wr => ∃ (k e : Nat) (rs : List Nat), k ≤ n ∧ i = .int .i64 k ∧ t = .int .u64 (e : Int) ∧ e ≤ 1 ∧ rs.length = k ∧ (∀ u ∈ rs, u < 4294967296) ∧ val rs + 4294967296 ^ k * e = val (xs.take k) + val (ys.take k) ∧ RowW wr w.heap.size (n + 1) rs ∧ Below w.heap.size w wr) (fun _ i _ => n - (intOf i).toNat)
    case atStart =>
      refine ⟨0, 0, [], Nat.zero_le _, rfl, rfl, by omega, rfl, by simp, by simp [val], ?_, (Below.refl _ _).alloc (Nat.le_refl _) _⟩
      exact (World.rowIs_made w (.int .u32 0) (n + 1) 141).congr fun i _ => by simp [List.getD]
    case round =>
      obtain ⟨k, e, rs, hk, rfl, rfl, he, hrl, hrw, hval, hrow, hb⟩ := hrel
      have HR : Hid (rs.length = k ∧ (∀ u ∈ rs, u < 4294967296) ∧ val rs + 4294967296 ^ k * e = val (xs.take k) + val (ys.take k)) := ⟨hrl, hrw, hval⟩
      have HW : Hid (RowW wr w.heap.size (n + 1) rs) := hrow
      clear hrl hrw hval hrow
      have hsz := hb.size
      by_cases hlt : k < n
      · obtain ⟨u, hu⟩ : ∃ u, xs[k]? = some u := ⟨_, List.getElem?_eq_getElem (by have := HN.out; omega)⟩
        rcases CX.out with hnil | ⟨b1, o1, hx, cx⟩
        · subst hnil; simp at hu
        subst hx
        have c1 := cell_below' hb (cx k u hu)
        have u1 := HX.out u (List.mem_of_getElem? hu)
        have HU : Hid (xs[k]? = some u) := hu
        have hk0 : (0 : Int) ≤ (k : Int) := by omega
        have hkn : (k : Int) < (n : Int) := by omega
        have hkn1 : (k : Int) < (n : Int) + 1 := by omega
        have w1 := World.rowIs.cell HW.out (show k < n + 1 by omega)
        have w2 := World.rowIs.frozen HW.out k
        clear hu cx
        by_cases hky : k < m
        · obtain ⟨v, hv⟩ : ∃ v, ys[k]? = some v := ⟨_, List.getElem?_eq_getElem (by have := HM.out; omega)⟩
          rcases CY.out with hnil | ⟨b2, o2, hy, cy⟩
          · subst hnil; simp at hv
          subst hy
          have c2 := cell_below' hb (cy k v hv)
          have v1 := HY.out v (List.mem_of_getElem? hv)
          have HV : Hid (wordAt ys k = v) := by
            have : wordAt ys k = v := by simp [wordAt, List.getD, hv]
            exact this
          have hkm : (k : Int) < (m : Int) := by omega
          clear hv cy
          have hnx := add_next HR.out HU.out HV.out
          have HNX : Hid ((rs ++ [(e + u + v) % 4294967296]).length = k + 1 ∧ (∀ x ∈ rs ++ [(e + u + v) % 4294967296], x < 4294967296) ∧ val (rs ++ [(e + u + v) % 4294967296]) + 4294967296 ^ (k + 1) * ((e + u + v) / 4294967296) = val (xs.take (k + 1)) + val (ys.take (k + 1))) := hnx
          clear hnx
          go_wp2
          go_roundw
          case rel =>
            have hq : (((e : Int) + u + v) % 4294967296) = (((e + u + v) % 4294967296 : Nat) : Int) := by omega
            have hq2 : (((e : Int) + u + v) / 4294967296) = (((e + u + v) / 4294967296 : Nat) : Int) := by omega
            rw [hq, hq2]
            exact ⟨k + 1, _, _, by omega, by go_num, rfl, by omega, HNX.out.1, HNX.out.2.1, HNX.out.2.2, HW.out.set HR.out.1, hb.setCell (Nat.le_refl _) _⟩
          case measure => simp [intOf]; omega
        · have HV : Hid (wordAt ys k = 0) := by
            have : wordAt ys k = 0 := by simp [wordAt, List.getD, List.getElem?_eq_none (show ys.length ≤ k by have := HM.out; omega)]
            exact this
          have hkm : ¬ (k : Int) < (m : Int) := by omega
          have hnx := add_next HR.out HU.out HV.out
          have HNX : Hid ((rs ++ [(e + u + 0) % 4294967296]).length = k + 1 ∧ (∀ x ∈ rs ++ [(e + u + 0) % 4294967296], x < 4294967296) ∧ val (rs ++ [(e + u + 0) % 4294967296]) + 4294967296 ^ (k + 1) * ((e + u + 0) / 4294967296) = val (xs.take (k + 1)) + val (ys.take (k + 1))) := hnx
          clear hnx
          go_wp2
          go_roundw
          case rel =>
            have hq : (((e : Int) + u) % 4294967296) = (((e + u + 0) % 4294967296 : Nat) : Int) := by omega
            have hq2 : (((e : Int) + u) / 4294967296) = (((e + u + 0) / 4294967296 : Nat) : Int) := by omega
            rw [hq, hq2]
            exact ⟨k + 1, _, _, by omega, by go_num, rfl, by omega, HNX.out.1, HNX.out.2.1, HNX.out.2.2, HW.out.set HR.out.1, hb.setCell (Nat.le_refl _) _⟩
          case measure => simp [intOf]; omega
      · have hkn : k = n := by omega
        have HK : Hid (k = n) := hkn
        have w1 := World.rowIs.cell HW.out (show n < n + 1 by omega)
        have w2 := World.rowIs.frozen HW.out n
        have HW2 : Hid (RowW (wr.setCell ⟨w.heap.size, n, none⟩ (.int .u32 (e : Int))) w.heap.size (n + 1) (rs ++ [e])) := HW.out.set (by rw [HR.out.1]; exact hkn)
        have HF : Hid ((rs ++ [e]).length = n + 1 ∧ (∀ x ∈ rs ++ [e], x < 4294967296) ∧ val (rs ++ [e]) = val xs + val ys) := by
          obtain ⟨h1', h2, h3⟩ := HR.out
          refine ⟨by simp [h1', hkn], ?_, ?_⟩
          · intro x hx
            rcases List.mem_append.1 hx with hx | hx
            · exact h2 x hx
            · simp at hx; omega
          · rw [val_snoc, h1', h3, List.take_of_length_le (by have := HN.out; omega), List.take_of_length_le (by have := HM.out; omega)]
        have he32 : (e : Int) % 4294967296 = (e : Int) := by omega
        clear hkn
        go_wp2_with fail
        refine (trim_any _ (HW2.out.wordsAt HF.out.1 (by unfold maxLen; omega)) HF.out.2.1 (by rw [HF.out.1]; omega)).mono ?_
        rintro e' w2' ⟨v, rfl, hv, rfl⟩
        have HV2 : Hid (NatAt (wr.setCell ⟨w.heap.size, n, none⟩ (.int .u32 (e : Int))) v (val xs + val ys)) := by
          rw [HF.out.2.2] at hv
          exact hv
        clear hv
        go_wp2
        go_ret
        exact ⟨_, rfl, HV2.out, hb.setCell (Nat.le_refl _) _⟩

theorem add_any {v1 v2 : Value} {n m : Nat} (w : World) (h1 : NatAt w v1 n) (h2 : NatAt w v2 m) (hn : n < 4294967296 ^ 100) (hm : m < 4294967296 ^ 100) :
    Calls Tryz.prog 106 #[v1, v2] w fun e w' => ∃ v, e = .returned v ∧ NatAt w' v (n + m) ∧ Below w.heap.size w w' := by
  obtain ⟨xs, ⟨x, c, rfl, _, _, hx⟩, cx, rfl, lx⟩ := h1
  obtain ⟨ys, ⟨y, d, rfl, _, _, hy⟩, cy, rfl, ly⟩ := h2
  have l1 := len_le cx hn
  have l2 := len_le cy hm
  by_cases hl : ys.length ≤ xs.length
  · exact (add_long x y c d xs ys w hl (by omega) cx.1 cy.1 hx hy).1
  · have h := (add_long y x d c ys xs w (by omega) (by omega) cy.1 cx.1 hy hx).2 (by omega)
    rw [Nat.add_comm (val xs)]
    exact h
end Go.Proofs.YtdaapdpbnijefaaGreatDoor
