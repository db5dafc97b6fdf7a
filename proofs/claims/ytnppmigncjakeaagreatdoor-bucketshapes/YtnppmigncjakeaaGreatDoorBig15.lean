/-
  millracebig.div and common at numbers below 2^1600: quotient and rest; the greatest common divisor; nothing that was there before is otherwise.
-/
import Derived.Test.YtnppmigncjakeaaGreatDoorBig14
import Derived.Deep.LoopGhost
namespace Go.Proofs.YtnppmigncjakeaaGreatDoor
open Go.RowKit Go.Deep

theorem lt_50 {n : Nat} (h : n < 18446744073709551616) : n < 4294967296 ^ 50 := Nat.lt_of_lt_of_le h (by decide)
theorem lt_50_100 {n : Nat} (h : n < 4294967296 ^ 50) : n < 4294967296 ^ 100 := Nat.lt_of_lt_of_le h (Nat.pow_le_pow_right (by omega) (by omega))
/-- div: quotient and rest. -/
theorem div_big {v1 v2 : Value} {n m : Nat} (w : World) (h1 : NatAt w v1 n) (h2 : NatAt w v2 m) (hm : 0 < m) (hn : n < 4294967296 ^ 50) :
    Calls Tryz.prog 104 #[v1, v2] w fun e w' => ∃ q r, e = .returned (.tuple #[q, r]) ∧ NatAt w' q (n / m) ∧ NatAt w' r (n % m) ∧ Below w.heap.size w w' := by
  by_cases h : n < 18446744073709551616
  · exact div_any w h1 h2 hm h
  · by_cases hl : n < m
    · rw [Nat.div_eq_of_lt hl, Nat.mod_eq_of_lt hl]
      exact div_less w h1 h2 hl
    · by_cases hw : m < 4294967296
      · exact div_word w h1 h2 hm hw (by omega) (lt_50_100 hn)
      · exact div_long w h1 h2 (by omega) (by omega) (by omega) hn
/-- How long a number is. -/
theorem NatAt.words {w : World} {x : Option Addr} {k c n : Nat} (h : NatAt w (.slice x k c) n) : (k ≤ 2 ↔ n < 18446744073709551616) ∧ (k = 0 ↔ n = 0) := by
  obtain ⟨ws, ⟨x', c', e1, _, _, _⟩, cn, rfl, _⟩ := h
  injection e1 with _ e2 _
  subst e2
  have h1 := val_lt cn.1
  refine ⟨⟨fun h => ?_, fun h => len_of_val cn h rfl⟩, ⟨fun h => ?_, fun h => by rw [canon_zero cn h]; rfl⟩⟩
  · exact Nat.lt_of_lt_of_le h1 (Nat.le_trans (Nat.pow_le_pow_right (by omega) h) (by decide))
  · rw [List.length_eq_zero_iff.1 h]; rfl
set_option maxHeartbeats 4000000 in
set_option maxRecDepth 100000 in
theorem common_big {v1 v2 : Value} {n m : Nat} (w : World) (h1 : NatAt w v1 n) (h2 : NatAt w v2 m) (hn : n < 4294967296 ^ 50) (hm : m < 4294967296 ^ 50) :
    Calls Tryz.prog 103 #[v1, v2] w fun e w' => ∃ g, e = .returned g ∧ NatAt w' g (Nat.gcd n m) ∧ Below w.heap.size w w' := by
  have H1 : Hid (NatAt w v1 n) := h1
  have H2 : Hid (NatAt w v2 m) := h2
  have HN : Hid (n < 4294967296 ^ 50 ∧ m < 4294967296 ^ 50) := ⟨hn, hm⟩
  clear h1 h2 hn hm
  go_enter Tryz.func103, Tryz.ntmps103
  go_wp2
  go_loopg [0, 1] (m + 1) (fun k s t wr => ∃ i j : Nat, j < k ∧ NatAt wr s i ∧ NatAt wr t j ∧ (i < 4294967296 ^ 50 ∧ j < 4294967296 ^ 50) ∧ Nat.gcd i j = Nat.gcd n m ∧ Below w.heap.size w wr)
  case atStart => exact ⟨n, m, by omega, H1.out, H2.out, HN.out, rfl, Below.refl _ _⟩
  case round =>
    obtain ⟨i, j, hjk, hs, ht, hb, hg, hbl⟩ := hrel
    obtain ⟨xs, ks, cs, rfl, hks, _⟩ := hs.form
    obtain ⟨xt, kt, ct, rfl, hkt, _⟩ := ht.form
    obtain ⟨hsw, _⟩ := hs.words
    obtain ⟨htw, htz⟩ := ht.words
    have HS : Hid (NatAt wr (.slice xs ks cs) i) := hs
    have HT : Hid (NatAt wr (.slice xt kt ct) j) := ht
    have HB : Hid ((i < 4294967296 ^ 50 ∧ j < 4294967296 ^ 50) ∧ Nat.gcd i j = Nat.gcd n m ∧ Below w.heap.size w wr) := ⟨hb, hg, hbl⟩
    have HJK : Hid (j < gk) := hjk
    clear hs ht hb hg hbl hjk
    by_cases hl : kt ≤ 2
    · have d1 : decide (2 < kt) = false := by simp; omega
      have d2 : decide ((2 : Int) < (kt : Int)) = false := by simp; omega
      have HJ : Hid (j < 18446744073709551616) := htw.1 hl
      by_cases h0 : kt = 0
      · have d3 : ((kt : Int) == 0) = true := by simp; omega
        have HZ : Hid (j = 0) := htz.1 h0
        clear h0 hl htw htz hsw
        go_wp2
        go_ret
        have hgg := HB.out.2.1
        rw [HZ.out, Nat.gcd_zero_right] at hgg
        exact ⟨_, rfl, by rw [← hgg]; exact HS.out, HB.out.2.2⟩
      · have d3 : ((kt : Int) == 0) = false := by simp; omega
        have HZ : Hid (0 < j) := Nat.pos_of_ne_zero (fun e => h0 (htz.2 e))
        clear h0 hl htz htw
        go_upto_if 28 with (fail)
        go_cut [0, 1] (fun s t wx => ∃ a b, NatAt wx s a ∧ NatAt wx t b ∧ (a < 18446744073709551616 ∧ b < 18446744073709551616) ∧ Nat.gcd a b = Nat.gcd n m ∧ Below w.heap.size w wx)
        case first =>
          by_cases hs2 : ks ≤ 2
          · have d4 : decide (2 < ks) = false := by simp; omega
            have d5 : decide ((2 : Int) < (ks : Int)) = false := by simp; omega
            have HI : Hid (i < 18446744073709551616) := hsw.1 hs2
            clear hs2 hsw
            first | rw [d5] | rw [d4]
            go_wp2
            go_meet
            case rel => exact ⟨i, j, HS.out, HT.out, ⟨HI.out, HJ.out⟩, HB.out.2.1, HB.out.2.2⟩
          · have d4 : decide (2 < ks) = true := by simp; omega
            have d5 : decide ((2 : Int) < (ks : Int)) = true := by simp; omega
            clear hs2 hsw
            first | rw [d5] | rw [d4]
            go_wp2_with fail
            refine (div_big wr HS.out HT.out HZ.out HB.out.1.1).mono ?_
            rintro e w2 ⟨q2, r2, rfl, _, hr2, hb2⟩
            have HR2 : Hid (NatAt w2 r2 (i % j)) := hr2
            clear hr2
            go_wp2
            go_meet
            case rel =>
              refine ⟨j, i % j, HT.out.below hb2, HR2.out, ⟨HJ.out, Nat.lt_trans (Nat.mod_lt _ HZ.out) HJ.out⟩, ?_, HB.out.2.2.trans (hb2.mono HB.out.2.2.size)⟩
              rw [← HB.out.2.1, Nat.gcd_comm j, ← Nat.gcd_rec, Nat.gcd_comm]
        case rest =>
          obtain ⟨a, b, ha, hb, hab, hg, hbl⟩ := hcut
          have HA : Hid (NatAt wc u0 a) := ha
          have HBb : Hid (NatAt wc u1 b) := hb
          have HAB : Hid ((a < 18446744073709551616 ∧ b < 18446744073709551616) ∧ Nat.gcd a b = Nat.gcd n m ∧ Below w.heap.size w wc) := ⟨hab, hg, hbl⟩
          clear ha hb hab hg hbl hsw hks hkt d1 d2 d3
          go_wp2_with fail
          refine (plain_any _ HA.out HAB.out.1.1).mono ?_
          rintro e w2 ⟨rfl, rfl⟩
          go_wp2_with fail
          refine (plain_any _ HBb.out HAB.out.1.2).mono ?_
          rintro e w3 ⟨rfl, rfl⟩
          go_wp2
          go_loopw [9, 10] (fun s t wx => ∃ i j : Nat, s = .int .u64 (i : Int) ∧ t = .int .u64 (j : Int) ∧ i < 18446744073709551616 ∧ j < 18446744073709551616 ∧ Nat.gcd i j = Nat.gcd n m ∧ ∃ q, wx = w3.drewN q) (fun _ t _ => (intOf t).toNat)
          case atStart => exact ⟨a, b, rfl, rfl, HAB.out.1.1, HAB.out.1.2, HAB.out.2.1, 0, rfl⟩
          case round =>
            obtain ⟨i, j, rfl, rfl, hi, hj, hg, q, rfl⟩ := hrel
            have HG : Hid (Nat.gcd i j = Nat.gcd n m) := hg
            have HI : Hid (i < 18446744073709551616) := hi
            have HJ : Hid (j < 18446744073709551616) := hj
            clear hg hi hj
            by_cases h0 : j = 0
            · have hd : decide (0 < j) = false := by simp; omega
              have hd2 : decide ((0 : Int) < (j : Int)) = false := by simp; omega
              have H0 : Hid (j = 0) := h0
              clear h0
              go_wp2_with fail
              refine (words_any i HI.out _).mono ?_
              rintro e w4 ⟨v, rfl, hv, hb⟩
              have HV : Hid (NatAt w4 v i) := hv
              clear hv
              go_wp2
              go_ret
              have hgg := HG.out
              rw [H0.out, Nat.gcd_zero_right] at hgg
              have hbb := HAB.out.2.2
              exact ⟨_, rfl, by rw [← hgg]; exact HV.out, (below_drewN hbb _).trans (hb.mono (by simpa using hbb.size))⟩
            · have hd : decide (0 < j) = true := by simp; omega
              have hd2 : decide ((0 : Int) < (j : Int)) = true := by simp; omega
              have hj2 : ¬ (j : Int) = 0 := by omega
              have hr : (i : Int).tmod (j : Int) = ((i % j : Nat) : Int) := by rw [Int.tmod_eq_emod_of_nonneg (by omega), ← Int.natCast_emod]
              have HR : Hid (i % j < j) := Nat.mod_lt _ (by omega)
              go_wp2
              go_quiet (fail)
              go_wp2
              go_roundw
              case rel =>
                refine ⟨j, i % j, rfl, rfl, HJ.out, Nat.lt_trans HR.out HJ.out, ?_, q + nq, World.drewN_drewN _ _ _⟩
                rw [← HG.out, Nat.gcd_comm j, ← Nat.gcd_rec, Nat.gcd_comm]
              case measure =>
                have := HR.out
                simp [intOf]
                omega
    · have d1 : decide (2 < kt) = true := by simp; omega
      have d2 : decide ((2 : Int) < (kt : Int)) = true := by simp; omega
      have HZ : Hid (0 < j) := Nat.pos_of_ne_zero (fun e => by have := htz.2 e; omega)
      clear hl htz htw hsw
      go_wp2_with fail
      refine (div_big wr HS.out HT.out HZ.out HB.out.1.1).mono ?_
      rintro e w2 ⟨q2, r2, rfl, _, hr2, hb2⟩
      have HR2 : Hid (NatAt w2 r2 (i % j)) := hr2
      clear hr2
      go_wp2
      go_roundg j
      case rel =>
        refine ⟨j, i % j, Nat.mod_lt _ HZ.out, HT.out.below hb2, HR2.out, ⟨HB.out.1.2, Nat.lt_trans (Nat.mod_lt _ HZ.out) HB.out.1.2⟩, ?_, HB.out.2.2.trans (hb2.mono HB.out.2.2.size)⟩
        rw [← HB.out.2.1, Nat.gcd_comm j, ← Nat.gcd_rec, Nat.gcd_comm]
      case measure => exact HJK.out
end Go.Proofs.YtnppmigncjakeaaGreatDoor
