/-
  millracebig.div and common at numbers below 2^64: quotient and rest; the greatest common divisor; nothing that was there before is otherwise.
  millracebig.div and common at numbers below 2^64: quotient and rest; the greatest common divisor; nothing that was there before is otherwise.
-/
import Derived.Test.YtnppmigncjakeaaGreatDoorGn
namespace Go.Proofs.YtnppmigncjakeaaGreatDoor
open Go.RowKit Go.Deep

theorem words_int (z : Int) (h0 : 0 ≤ z) (h1 : z < 18446744073709551616) (w : World) : Calls Tryz.prog 105 #[.int .u64 z] w fun e w' => ∃ v, e = .returned v ∧ NatAt w' v z.toNat ∧ Below w.heap.size w w' := by
  obtain ⟨n, rfl⟩ := Int.eq_ofNat_of_zero_le h0
  exact words_any n (by omega) w

set_option maxHeartbeats 2000000 in
set_option maxRecDepth 100000 in
theorem div_less {v1 v2 : Value} {n m : Nat} (w : World) (h1 : NatAt w v1 n) (h2 : NatAt w v2 m) (h : n < m) :
    Calls Tryz.prog 104 #[v1, v2] w fun e w' => ∃ q r, e = .returned (.tuple #[q, r]) ∧ NatAt w' q 0 ∧ NatAt w' r n ∧ Below w.heap.size w w' := by
  obtain ⟨x, k, c, rfl, hk, hk0⟩ := h1.form
  obtain ⟨y, l, d, rfl, hl, hl0⟩ := h2.form
  have H1 : Hid (NatAt w (.slice x k c) n) := h1
  have H2 : Hid (NatAt w (.slice y l d) m) := h2
  have hl1 : ((l : Int) == 0) = false := by simp; omega
  have HC : Hid (cmpOf n m = -1) := cmpOf_lt h
  clear h1 h2 hk0 hl0 h
  go_enter Tryz.func104, Tryz.ntmps104
  go_wp2_with fail
  refine (cmp_any _ H1.out H2.out).mono ?_
  rintro e w1 ⟨rfl, hb1⟩
  rw [HC.out]
  have H1' : Hid (NatAt w1 (.slice x k c) n) := H1.out.below hb1
  go_wp2_with fail
  refine (twin_any _ H1'.out).mono ?_
  rintro e w2 ⟨v, rfl, hv, hb2⟩
  have HV : Hid (NatAt w2 v n) := hv
  clear hv
  go_wp2
  go_ret2
  exact ⟨_, _, rfl, natAt_nil _, HV.out, hb1.trans (hb2.mono hb1.size)⟩

set_option maxHeartbeats 4000000 in
set_option maxRecDepth 100000 in
theorem div_two {v1 v2 : Value} {n m : Nat} (w : World) (h1 : NatAt w v1 n) (h2 : NatAt w v2 m) (hm : 0 < m) (h : m ≤ n) (hn : n < 18446744073709551616) :
    Calls Tryz.prog 104 #[v1, v2] w fun e w' => ∃ q r, e = .returned (.tuple #[q, r]) ∧ NatAt w' q (n / m) ∧ NatAt w' r (n % m) ∧ Below w.heap.size w w' := by
  obtain ⟨x, k, c, rfl, hk, hk0⟩ := h1.form
  obtain ⟨y, l, d, rfl, hl, hl0⟩ := h2.form
  have hk2 : k ≤ 2 := by
    obtain ⟨ws, ⟨x', c', e1, _, _, _⟩, cn, rfl, _⟩ := h1
    have := len_of_val cn hn rfl
    injection e1 with _ e2 _
    omega
  have H1 : Hid (NatAt w (.slice x k c) n) := h1
  have H2 : Hid (NatAt w (.slice y l d) m) := h2
  have HN : Hid (n < 18446744073709551616) := hn
  have HM : Hid (0 < m ∧ m ≤ n) := ⟨hm, h⟩
  have hl1 : ((l : Int) == 0) = false := by simp; omega
  have hcm : decide (cmpOf n m < 0) = false := by unfold cmpOf; rw [if_neg (by omega)]; split <;> simp
  have hm0 : ((m : Int) == 0) = false := by simp; omega
  have hk3 : decide ((k : Int) ≤ 2) = true := by simp; omega
  clear hk2 hn hm h
  clear h1 h2 hk0 hl0
  go_enter Tryz.func104, Tryz.ntmps104
  go_wp2_with fail
  refine (cmp_any _ H1.out H2.out).mono ?_
  rintro e w1 ⟨rfl, hb1⟩
  generalize cmpOf n m = cm at *
  have H1' : Hid (NatAt w1 (.slice x k c) n) := H1.out.below hb1
  have H2' : Hid (NatAt w1 (.slice y l d) m) := H2.out.below hb1
  go_wp2_with fail
  refine (plain_any _ H1'.out HN.out).mono ?_
  rintro e w2 ⟨rfl, rfl⟩
  go_wp2_with fail
  refine (plain_any _ H2'.out (by have := HM.out; have := HN.out; omega)).mono ?_
  rintro e w3 ⟨rfl, rfl⟩
  go_wp2
  have hm2 : ¬ (m : Int) = 0 := by have := HM.out; omega
  have hm3 : ¬ m = 0 := by have := HM.out; omega
  have hq : IntKind.u64.wrap ((n : Int) / m) = ((n / m : Nat) : Int) := by
    have h1 := HN.out
    have h2 : n / m ≤ n := Nat.div_le_self _ _
    rw [IntKind.wrap_u64, ← Int.natCast_ediv]
    generalize n / m = q at *
    omega
  have hr : (n : Int).tmod (m : Int) = ((n % m : Nat) : Int) := by rw [Int.tmod_eq_emod_of_nonneg (by omega), ← Int.natCast_emod]
  have HQ : Hid (n / m < 18446744073709551616) := Nat.lt_of_le_of_lt (Nat.div_le_self _ _) HN.out
  have HR : Hid (n % m < 18446744073709551616) := Nat.lt_of_le_of_lt (Nat.mod_le _ _) HN.out
  generalize hqe : n / m = q at hq HQ
  generalize hre : n % m = r at hr HR
  have HE : Hid (n / m = q ∧ n % m = r) := ⟨hqe, hre⟩
  clear hqe hre
  go_region_with (go_at_call 105; first | (refine (words_any q (by exact HQ.out) _).mono ?_; rintro e w4 ⟨v4, rfl, hv4, hb4⟩) | (refine (words_any r (by exact HR.out) _).mono ?_; rintro e w5 ⟨v5, rfl, hv5, hb5⟩))
  all_goals trace "limb"
  have HQ4 : Hid (NatAt w5 v4 q) := hv4.below hb5
  have HR5 : Hid (NatAt w5 v5 r) := hv5
  have hbb : Below w.heap.size w w5 := hb1.trans ((((Below.refl _ _).drew).trans hb4).trans (hb5.mono (by simpa using hb4.size)) |>.mono hb1.size)
  clear hv4 hv5 hb4 hb5
  go_wp2
  go_ret2
  exact ⟨_, _, rfl, by rw [HE.out.1]; exact HQ4.out, by rw [HE.out.2]; exact HR5.out, hbb⟩
end Go.Proofs.YtnppmigncjakeaaGreatDoor
namespace Go.Proofs.YtnppmigncjakeaaGreatDoor
open Go.RowKit Go.Deep

/-- div: quotient and rest of numbers below 2^64. -/
theorem div_any {v1 v2 : Value} {n m : Nat} (w : World) (h1 : NatAt w v1 n) (h2 : NatAt w v2 m) (hm : 0 < m) (hn : n < 18446744073709551616) :
    Calls Tryz.prog 104 #[v1, v2] w fun e w' => ∃ q r, e = .returned (.tuple #[q, r]) ∧ NatAt w' q (n / m) ∧ NatAt w' r (n % m) ∧ Below w.heap.size w w' := by
  by_cases h : n < m
  · rw [Nat.div_eq_of_lt h, Nat.mod_eq_of_lt h]
    exact div_less w h1 h2 h
  · exact div_two w h1 h2 hm (by omega) hn

theorem words_le_two {w : World} {x : Option Addr} {k c n : Nat} (h1 : NatAt w (.slice x k c) n) (hn : n < 18446744073709551616) : k ≤ 2 := by
  obtain ⟨ws, ⟨x', c', e1, _, _, _⟩, cn, rfl, _⟩ := h1
  have := len_of_val cn hn rfl
  injection e1 with _ e2 _
  omega

set_option maxHeartbeats 4000000 in
set_option maxRecDepth 100000 in
theorem common_two {v1 v2 : Value} {n m : Nat} (w : World) (h1 : NatAt w v1 n) (h2 : NatAt w v2 m) (hm : 0 < m) (hn : n < 18446744073709551616) (hm2 : m < 18446744073709551616) :
    Calls Tryz.prog 103 #[v1, v2] w fun e w' => ∃ g, e = .returned g ∧ NatAt w' g (Nat.gcd n m) ∧ Below w.heap.size w w' := by
  obtain ⟨x, k, c, rfl, hk, hk0⟩ := h1.form
  obtain ⟨y, l, d, rfl, hl, hl0⟩ := h2.form
  have hk2 : k ≤ 2 := words_le_two h1 hn
  have hl2 : l ≤ 2 := words_le_two h2 hm2
  have H1 : Hid (NatAt w (.slice x k c) n) := h1
  have H2 : Hid (NatAt w (.slice y l d) m) := h2
  have HN : Hid (n < 18446744073709551616) := hn
  have HM : Hid (m < 18446744073709551616) := hm2
  have hl1 : ((l : Int) == 0) = false := by simp; omega
  have hk3 : decide (2 < k) = false := by simp; omega
  have hl3 : decide (2 < l) = false := by simp; omega
  have hk4 : decide ((2 : Int) < (k : Int)) = false := by simp; omega
  have hl4 : decide ((2 : Int) < (l : Int)) = false := by simp; omega
  clear hk2 hl2 hn hm2 hm h1 h2 hk0 hl0
  go_enter Tryz.func103, Tryz.ntmps103
  go_wp2_with fail
  refine wp_loop_rounds 1 ?_
  rw [rounds_succ]
  go_wp2_with fail
  refine (plain_any _ H1.out HN.out).mono ?_
  rintro e w2 ⟨rfl, rfl⟩
  go_wp2_with fail
  refine (plain_any _ H2.out HM.out).mono ?_
  rintro e w3 ⟨rfl, rfl⟩
  go_wp2
  clear hl1 hk3 hl3 hk4 hl4 hk hl
  go_loopw [9, 10] (fun s t wr => ∃ i j : Nat, s = .int .u64 (i : Int) ∧ t = .int .u64 (j : Int) ∧ i < 18446744073709551616 ∧ j < 18446744073709551616 ∧ Nat.gcd i j = Nat.gcd n m ∧ ∃ q, wr = w3.drewN q) (fun _ t _ => (intOf t).toNat)
  case atStart => exact ⟨n, m, rfl, rfl, HN.out, HM.out, rfl, 0, rfl⟩
  case round =>
    obtain ⟨i, j, rfl, rfl, hi, hj, hg, q, rfl⟩ := hrel
    have HG : Hid (Nat.gcd i j = Nat.gcd n m) := hg
    have HI : Hid (i < 18446744073709551616) := hi
    have HJ : Hid (j < 18446744073709551616) := hj
    clear hg hi hj
    by_cases h0 : j = 0
    · have hd : decide (0 < j) = false := by simp; omega
      have hd2 : decide ((0 : Int) < (j : Int)) = false := by simp; omega
      have H0 : Hid (j = 0) := h0
      clear h0
      go_wp2_with fail
      refine (words_any i HI.out _).mono ?_
      rintro e w4 ⟨v, rfl, hv, hb⟩
      have HV : Hid (NatAt w4 v i) := hv
      clear hv
      go_wp2
      go_ret
      have hgg := HG.out
      rw [H0.out, Nat.gcd_zero_right] at hgg
      exact ⟨_, rfl, by rw [← hgg]; exact HV.out, (below_drewN (Below.refl _ _) _).trans (hb.mono (by simp))⟩
    · have hd : decide (0 < j) = true := by simp; omega
      have hd2 : decide ((0 : Int) < (j : Int)) = true := by simp; omega
      have hj2 : ¬ (j : Int) = 0 := by omega
      have hr : (i : Int).tmod (j : Int) = ((i % j : Nat) : Int) := by rw [Int.tmod_eq_emod_of_nonneg (by omega), ← Int.natCast_emod]
      have HR : Hid (i % j < j) := Nat.mod_lt _ (by omega)
      go_wp2
      go_quiet (fail)
      go_wp2
      go_roundw
      case rel =>
        refine ⟨j, i % j, rfl, rfl, HJ.out, Nat.lt_trans HR.out HJ.out, ?_, q + nq, World.drewN_drewN _ _ _⟩
        rw [← HG.out, Nat.gcd_comm j, ← Nat.gcd_rec, Nat.gcd_comm]
      case measure =>
        have := HR.out
        simp [intOf]
        omega
end Go.Proofs.YtnppmigncjakeaaGreatDoor
