/-
  millracebig.right by fewer than 32 places; left, length, right at a number; nothing that was there before is otherwise.
  millracebig.div of a number of three words or more by one word; nothing that was there before is otherwise.
-/
import Derived.Test.YtnppmigncjakeaaGreatDoorBig11
namespace Go.Proofs.YtnppmigncjakeaaGreatDoor
open Go.RowKit Go.Deep

theorem right_word {s x y X : Nat} (hs : s < 32) (hx : x < 4294967296) : (x + 4294967296 * (y + 4294967296 * X)) / 2 ^ s = (x + y * 4294967296) / 2 ^ s % 4294967296 + 4294967296 * ((y + 4294967296 * X) / 2 ^ s) := by
  have hp : 2 ^ s * 2 ^ (32 - s) = 4294967296 := by rw [← Nat.pow_add, show s + (32 - s) = 32 by omega]
  have hp0 : 0 < 2 ^ s := Nat.pow_pos (by omega)
  -- both sides by the number's words
  have e1 : (x + 4294967296 * (y + 4294967296 * X)) / 2 ^ s = (x + y * 4294967296) / 2 ^ s + 4294967296 * (2 ^ (32 - s) * X) := by
    have : x + 4294967296 * (y + 4294967296 * X) = (x + y * 4294967296) + 2 ^ s * (4294967296 * (2 ^ (32 - s) * X)) := by
      have h : 2 ^ s * (4294967296 * (2 ^ (32 - s) * X)) = 4294967296 * (4294967296 * X) := by
        rw [Nat.mul_left_comm (2 ^ s) 4294967296, ← Nat.mul_assoc (2 ^ s), hp]
      rw [h]; omega
    rw [this, Nat.add_mul_div_left _ _ hp0]
  have e3 : (y + 4294967296 * X) / 2 ^ s = y / 2 ^ s + 2 ^ (32 - s) * X := by
    have : y + 4294967296 * X = y + 2 ^ s * (2 ^ (32 - s) * X) := by rw [← Nat.mul_assoc, hp]
    rw [this, Nat.add_mul_div_left _ _ hp0]
  have e4 : (x + y * 4294967296) / 2 ^ s / 4294967296 = y / 2 ^ s := by
    rw [Nat.div_div_eq_div_mul, Nat.mul_comm (2 ^ s), ← Nat.div_div_eq_div_mul]
    rw [Nat.add_mul_div_right _ _ (by omega), Nat.div_eq_of_lt hx, Nat.zero_add]
  have e5 := Nat.mod_add_div ((x + y * 4294967296) / 2 ^ s) 4294967296
  rw [e4] at e5
  rw [e1, e3, Nat.mul_add, ← Nat.add_assoc, e5]
theorem right_word0 {s x : Nat} (hx : x < 4294967296) : x / 2 ^ s % 4294967296 = x / 2 ^ s := by
  exact Nat.mod_eq_of_lt (Nat.lt_of_le_of_lt (Nat.div_le_self _ _) hx)

set_option maxHeartbeats 2000000 in
set_option maxRecDepth 100000 in
theorem right_some (b o c s : Nat) (xs : List Nat) (w : World) (h0 : 0 < xs.length) (h1 : xs.length ≤ 900000) (hx : ∀ u ∈ xs, u < 4294967296) (hs : s < 32)
    (cx : ∀ (i u : Nat), xs[i]? = some u → w.cell? ⟨b, o + i, none⟩ = some (.int .u32 (u : Int))) :
    Calls Tryz.prog 113 #[.slice (some ⟨b, o, none⟩) xs.length c, .int .u64 (s : Int)] w fun e w' => ∃ v, e = .returned v ∧ NatAt w' v (val xs / 2 ^ s) ∧ Below w.heap.size w w' := by
  have HX : Hid (∀ u ∈ xs, u < 4294967296) := hx
  have CX : Hid (∀ (i u : Nat), xs[i]? = some u → w.cell? ⟨b, o + i, none⟩ = some (.int .u32 (u : Int))) := cx
  generalize hn : xs.length = n at *
  have HN : Hid (xs.length = n) := hn
  have hmk := run_make_row' (P := Tryz.prog) 100 141 (.int .u32 0) 4 Tryz.underlying100 infoU32' rfl .i64 .i64 n (by omega) (by omega)
  have hn0 : ((n : Int) == 0) = false := by simp; omega
  have hn1 : ¬ (n : Int) ≤ 0 := by omega
  have e1 : (s : Int) / 32 = 0 := by omega
  have e2 : (s : Int) % 32 = (s : Int) := by omega
  have e3 : (s : Int).tmod 32 = (s : Int) := by rw [Int.tmod_eq_emod_of_nonneg (by omega)]; omega
  have e4 : (s : Int).tdiv 32 = 0 := by rw [Int.tdiv_eq_ediv_of_nonneg (by omega)]; omega
  clear hn hx cx
  go_enter Tryz.func113, Tryz.ntmps113
  go_wp2
  go_loopw [8] (fun t wr => ∃ (i : Nat) (rs : List Nat), i ≤ n ∧ t = .int .i64 i ∧ rs.length = i ∧ (∀ u ∈ rs, u < 4294967296) ∧ val xs / 2 ^ s = val rs + 4294967296 ^ i * (val (xs.drop i) / 2 ^ s) ∧ RowW wr w.heap.size n rs ∧ Below w.heap.size w wr) (fun t _ => n - (intOf t).toNat)
  case atStart =>
    refine ⟨0, [], Nat.zero_le _, rfl, rfl, by simp, by simp [val], ?_, (Below.refl _ _).alloc (Nat.le_refl _) _⟩
    exact (World.rowIs_made w (.int .u32 0) n 141).congr fun i hi => by simp [List.getD]
  case round =>
    obtain ⟨i, rs, hi, rfl, hrl, hrw, hval, hrow, hb⟩ := hrel
    have HW : Hid (RowW wr w.heap.size n rs) := hrow
    have HR : Hid (rs.length = i ∧ (∀ u ∈ rs, u < 4294967296) ∧ val xs / 2 ^ s = val rs + 4294967296 ^ i * (val (xs.drop i) / 2 ^ s)) := ⟨hrl, hrw, hval⟩
    clear hrl hrw hval hrow
    by_cases hlt : i < n
    · obtain ⟨u, hu⟩ : ∃ u, xs[i]? = some u := ⟨_, List.getElem?_eq_getElem (by have := HN.out; omega)⟩
      have u1 := HX.out u (List.mem_of_getElem? hu)
      have c1 := cell_below' hb (CX.out i u hu)
      have HU : Hid (xs[i]? = some u) := hu
      have c2 : ∃ z, wr.cell? ⟨w.heap.size, i, none⟩ = some z := ⟨_, World.rowIs.cell HW.out (show i < n by omega)⟩
      obtain ⟨z, c2⟩ := c2
      have c4 := World.rowIs.frozen HW.out i
      have p1 : (0 : Int) ≤ (i : Int) := by omega
      have p2 : (i : Int) < (n : Int) := by omega
      clear hu
      by_cases hl2 : i + 1 < n
      · obtain ⟨y, hy⟩ : ∃ y, xs[i + 1]? = some y := ⟨_, List.getElem?_eq_getElem (by have := HN.out; omega)⟩
        have y1 := HX.out y (List.mem_of_getElem? hy)
        have c3 := cell_below' hb (CX.out (i + 1) y hy)
        have HY : Hid (xs[i + 1]? = some y) := hy
        have p3 : (i : Int) + 1 < (n : Int) := by omega
        have o1 : bits .or .u64 (u : Int) ((y : Int) * 4294967296) = ((u + y * 4294967296 : Nat) : Int) := by
          have e1 : (y : Int) * 4294967296 = ((y * 4294967296 : Nat) : Int) := by simp
          rw [e1, bits_or_u64_nat u (y * 4294967296) (by omega) (by omega), or_words u y u1]
        clear hy
        go_wp2
        go_roundw
        case rel =>
          have hv : val xs / 2 ^ s = val (rs ++ [(u + y * 4294967296) / 2 ^ s % 4294967296]) + 4294967296 ^ (i + 1) * (val (xs.drop (i + 1)) / 2 ^ s) := by
            have h := HR.out.2.2
            rw [val_drop HU.out, val_drop HY.out, right_word hs u1, Nat.mul_add, ← Nat.mul_assoc, ← Nat.pow_succ] at h
            rw [val_snoc, HR.out.1, val_drop HY.out, h]; exact (Nat.add_assoc _ _ _).symm
          have k1 : ((u : Int) + (y : Int) * 4294967296) / 2 ^ s % 4294967296 = (((u + y * 4294967296) / 2 ^ s % 4294967296 : Nat) : Int) := by simp
          rw [k1]
          exact ⟨i + 1, _, by omega, by go_num, by simp [HR.out.1], fun x hx => by
            rcases List.mem_append.1 hx with h | h
            · exact HR.out.2.1 x h
            · rw [List.mem_singleton.1 h]; omega, hv, HW.out.set HR.out.1, hb.setCell (Nat.le_refl _) _⟩
        case measure => simp [intOf]; omega
      · have hin : n = i + 1 := by omega
        have p3 : ¬ (i : Int) + 1 < (n : Int) := by omega
        have HI : Hid (n = i + 1) := hin
        clear hin
        go_wp2
        go_roundw
        case rel =>
          have hd : val (xs.drop (i + 1)) = 0 := by rw [List.drop_of_length_le (by have := HN.out; have := HI.out; omega)]; rfl
          have hv : val xs / 2 ^ s = val (rs ++ [u / 2 ^ s % 4294967296]) + 4294967296 ^ (i + 1) * (val (xs.drop (i + 1)) / 2 ^ s) := by
            have h := HR.out.2.2
            rw [val_drop HU.out, hd] at h
            rw [val_snoc, HR.out.1, hd, h, right_word0 u1]; simp
          have k1 : (u : Int) / 2 ^ s % 4294967296 = ((u / 2 ^ s % 4294967296 : Nat) : Int) := by simp
          rw [k1]
          exact ⟨i + 1, _, by omega, by go_num, by simp [HR.out.1], fun x hx => by
            rcases List.mem_append.1 hx with h | h
            · exact HR.out.2.1 x h
            · rw [List.mem_singleton.1 h]; omega, hv, HW.out.set HR.out.1, hb.setCell (Nat.le_refl _) _⟩
        case measure => simp [intOf]; omega
    · have hin : i = n := by omega
      have HF : Hid (rs.length = n ∧ (∀ x ∈ rs, x < 4294967296) ∧ val rs = val xs / 2 ^ s) := by
        refine ⟨by rw [HR.out.1, hin], HR.out.2.1, ?_⟩
        rw [HR.out.2.2, hin, List.drop_of_length_le (by have := HN.out; omega)]
        simp [val]
      go_wp2_with fail
      refine (trim_any _ (HW.out.wordsAt HF.out.1 (by unfold maxLen; omega)) HF.out.2.1 (by rw [HF.out.1]; omega)).mono ?_
      rintro e' w2' ⟨v, rfl, hv, rfl⟩
      have HV2 : Hid (NatAt w2' v (val xs / 2 ^ s)) := by
        rw [HF.out.2.2] at hv
        exact hv
      clear hv
      go_wp2
      go_ret
      exact ⟨_, rfl, HV2.out, hb⟩
set_option maxHeartbeats 1000000 in
theorem right_nil (x : Option Addr) (c s : Nat) (w : World) (hs : s < 32) :
    Calls Tryz.prog 113 #[.slice x 0 c, .int .u64 (s : Int)] w fun e w' => e = .returned (.slice none 0 0) ∧ w' = w := by
  have e1 : (s : Int) / 32 = 0 := by omega
  have e2 : (s : Int) % 32 = (s : Int) := by omega
  have e3 : (s : Int).tmod 32 = (s : Int) := by rw [Int.tmod_eq_emod_of_nonneg (by omega)]; omega
  have e4 : (s : Int).tdiv 32 = 0 := by rw [Int.tdiv_eq_ediv_of_nonneg (by omega)]; omega
  go_enter Tryz.func113, Tryz.ntmps113
  go_wp2
  go_ret
  exact ⟨rfl, rfl⟩
theorem right_any {v : Value} {n s : Nat} (w : World) (h : NatAt w v n) (hs : s < 32) (hn : n < 4294967296 ^ 100) :
    Calls Tryz.prog 113 #[v, .int .u64 (s : Int)] w fun e w' => ∃ q, e = .returned q ∧ NatAt w' q (n / 2 ^ s) ∧ Below w.heap.size w w' := by
  obtain ⟨xs, ⟨x, c, rfl, _, _, hx⟩, cx, rfl, lx⟩ := h
  have l1 := len_le cx hn
  rcases Nat.eq_zero_or_pos xs.length with h0 | h0
  · rw [h0]
    refine (right_nil x c s w hs).mono ?_
    rintro e w' ⟨rfl, rfl⟩
    refine ⟨_, rfl, ?_, Below.refl _ _⟩
    rw [List.length_eq_zero_iff.1 h0]
    have : val [] / 2 ^ s = 0 := by simp [val]
    rw [this]
    exact natAt_nil _
  · rcases hx with hx | ⟨b1, o1, rfl, hx⟩
    · rw [hx] at h0; simp at h0
    exact right_some b1 o1 c s xs w h0 (by omega) cx.1 hs hx
theorem left_any {v : Value} {n s : Nat} (w : World) (h : NatAt w v n) (hs : s < 32) (h0 : 0 < n) (hn : n < 4294967296 ^ 100) :
    Calls Tryz.prog 112 #[v, .int .u64 (s : Int)] w fun e w' => ∃ q, e = .returned q ∧ NatAt w' q (n * 2 ^ s) ∧ Below w.heap.size w w' := by
  obtain ⟨xs, ⟨x, c, rfl, _, _, hx⟩, cx, rfl, lx⟩ := h
  have l1 := len_le cx hn
  rcases hx with hx | ⟨b1, o1, rfl, hx⟩
  · subst hx; simp [val] at h0
  refine left_some b1 o1 c s xs w ?_ (by omega) cx.1 hs hx
  rcases Nat.eq_zero_or_pos xs.length with h | h
  · rw [List.length_eq_zero_iff.1 h] at h0; simp [val] at h0
  · exact h
end Go.Proofs.YtnppmigncjakeaaGreatDoor
namespace Go.Proofs.YtnppmigncjakeaaGreatDoor
open Go.RowKit Go.Deep

theorem words_one (b : Nat) (w : World) (u : Nat) (hc0 : w.cell? ⟨b, 0, none⟩ = some (.int .u32 (u : Int))) : WordsAt w (.slice (some ⟨b, 0, none⟩) 1 1) [u] := by
  refine ⟨_, _, rfl, by simp, by decide, Or.inr ⟨b, 0, rfl, ?_⟩⟩
  intro i v hv
  match i, hv with
  | 0, hv => simp at hv; subst hv; simpa using hc0
set_option maxHeartbeats 4000000 in
set_option maxRecDepth 100000 in
theorem div_word {v1 v2 : Value} {n m : Nat} (w : World) (h1 : NatAt w v1 n) (h2 : NatAt w v2 m) (hm : 0 < m) (hm1 : m < 4294967296) (hn : 18446744073709551616 ≤ n) (hn1 : n < 4294967296 ^ 100) :
    Calls Tryz.prog 104 #[v1, v2] w fun e w' => ∃ q r, e = .returned (.tuple #[q, r]) ∧ NatAt w' q (n / m) ∧ NatAt w' r (n % m) ∧ Below w.heap.size w w' := by
  have H1 : Hid (NatAt w v1 n) := h1
  have H2 : Hid (NatAt w v2 m) := h2
  obtain ⟨xs, ⟨x, c, rfl, _, _, hx⟩, cx, ex, lx⟩ := h1
  obtain ⟨ys, ⟨y, d, rfl, _, _, hy⟩, cy, ey, ly⟩ := h2
  have hk2 : ¬ xs.length ≤ 2 := by
    intro h
    have h1 := val_lt cx.1
    have h2 : 4294967296 ^ xs.length ≤ 4294967296 ^ 2 := Nat.pow_le_pow_right (by omega) h
    omega
  have hl1 : ys = [m] := by
    rcases canon_two cy (by omega) with ⟨rfl, hv⟩ | ⟨u, rfl, hu0, hu1, hv⟩ | ⟨u, q, rfl, hu1, hq0, hq1, hv⟩
    · omega
    · have : u = m := by omega
      rw [this]
    · omega
  subst hl1
  rcases hy with hy | ⟨b, o, rfl, hy⟩
  · cases hy
  have c0 := hy 0 m rfl
  rw [Nat.add_zero] at c0
  have C0 : Hid (w.cell? ⟨b, o, none⟩ = some (.int .u32 (m : Int))) := c0
  have hlx := len_le cx (by rw [ex]; exact hn1)
  generalize xs.length = k at *
  have hk3 : ¬ ((k : Int) ≤ 2) := by omega
  have HM : Hid (0 < m ∧ m < 4294967296 ∧ 0 < n) := ⟨hm, hm1, by omega⟩
  have hcm : decide (cmpOf n m < 0) = false := by unfold cmpOf; rw [if_neg (by omega)]; split <;> simp
  clear hx cx ex lx hy cy ey ly hm hm1 hn hn1 c0
  simp only [List.length_cons, List.length_nil, Nat.zero_add] at *
  go_enter Tryz.func104, Tryz.ntmps104
  go_wp2_with fail
  refine (cmp_any _ H1.out H2.out).mono ?_
  rintro e w1 ⟨rfl, hb1⟩
  generalize cmpOf n m = cm at *
  have H1' : Hid (NatAt w1 (.slice x k c) n) := H1.out.below hb1
  have c1 : w1.cell? ⟨b, o, none⟩ = some (.int .u32 (m : Int)) := cell_below' hb1 C0.out
  have B1 : Hid (Below w.heap.size w w1) := hb1
  clear hb1
  go_wp2_with fail
  refine (small_any _ H1'.out HM.out.2.2 HM.out.1 HM.out.2.1).mono ?_
  rintro e w2 ⟨q, rfl, hq, hb2⟩
  have HQ : Hid (NatAt w2 q (n / m) ∧ Below w1.heap.size w1 w2) := ⟨hq, hb2⟩
  clear hq hb2
  have HR : Hid (n % m < 4294967296) := Nat.lt_trans (Nat.mod_lt _ HM.out.1) HM.out.2.1
  generalize hre : n % m = r at *
  have HE : Hid (n % m = r) := hre
  clear hre
  go_wp2_with fail
  refine (trim_any _ (words_one w2.heap.size _ r (by simp)) (by intro u hu; rw [List.mem_singleton.1 hu]; exact HR.out) (by simp)).mono ?_
  rintro e w3 ⟨v, rfl, hv, rfl⟩
  have hb3 : Below w2.heap.size w2 (w2.alloc (.cells #[.int .u32 (r : Int)] 141)) := (Below.refl _ _).alloc (Nat.le_refl _) _
  have HF : Hid (NatAt (w2.alloc (.cells #[.int .u32 (r : Int)] 141)) q (n / m) ∧ NatAt (w2.alloc (.cells #[.int .u32 (r : Int)] 141)) v r ∧ Below w.heap.size w (w2.alloc (.cells #[.int .u32 (r : Int)] 141))) := by
    refine ⟨HQ.out.1.below hb3, ?_, (B1.out.trans (HQ.out.2.mono B1.out.size)).trans (hb3.mono (Nat.le_trans B1.out.size HQ.out.2.size))⟩
    have : val [r] = r := by simp [val]
    rw [this] at hv
    exact hv
  clear hv
  go_wp2
  go_ret2
  exact ⟨_, _, rfl, HF.out.1, by rw [HE.out]; exact HF.out.2.1, HF.out.2.2⟩
end Go.Proofs.YtnppmigncjakeaaGreatDoor
