/-
  millracebig.length, and left, right by fewer than 32 places; nothing that was there before is otherwise.
-/
import Derived.Test.YtnppmigncjakeaaGreatDoorDivM
namespace Go.Proofs.YtnppmigncjakeaaGreatDoor
open Go.RowKit Go.Deep

theorem or32 (a b : Nat) (ha : a < 4294967296) (hb : b < 4294967296) : bits .or .u32 (a : Int) (b : Int) = ((a ||| b : Nat) : Int) := by
  have hx : a ||| b < 2 ^ 32 := Nat.or_lt_two_pow (by omega) (by omega)
  have ha' : (BitVec.ofInt 32 (a : Int)).toNat = a := by rw [BitVec.ofInt_natCast, BitVec.toNat_ofNat]; omega
  have hb' : (BitVec.ofInt 32 (b : Int)).toNat = b := by rw [BitVec.ofInt_natCast, BitVec.toNat_ofNat]; omega
  show IntKind.u32.wrap ((BitVec.ofInt 32 (a : Int) ||| BitVec.ofInt 32 (b : Int)).toNat : Int) = _
  rw [BitVec.toNat_or, ha', hb', IntKind.wrap_u32]
  omega
theorem left_or {r u s : Nat} (hs : s < 32) (hr : r < 2 ^ s) (hu : u < 4294967296) :
    u * 2 ^ s < 18446744073709551616 ∧ r ||| u * 2 ^ s % 4294967296 = r + u * 2 ^ s % 4294967296 ∧ r + u * 2 ^ s % 4294967296 < 4294967296 ∧ u * 2 ^ s / 4294967296 < 2 ^ s ∧ 2 ^ s < 4294967296 := by
  have hp : 2 ^ s * 2 ^ (32 - s) = 4294967296 := by rw [← Nat.pow_add, show s + (32 - s) = 32 by omega]
  have hp0 : 0 < 2 ^ s := Nat.pow_pos (by omega)
  have hq0 : 1 < 2 ^ (32 - s) := Nat.one_lt_two_pow (by omega)
  have hlt : 2 ^ s < 4294967296 := Nat.pow_lt_pow_right (a := 2) (n := 32) (by omega) hs
  have e1 : u * 2 ^ s % 4294967296 = 2 ^ s * (u % 2 ^ (32 - s)) := by
    rw [← hp, Nat.mul_comm u (2 ^ s), Nat.mul_mod_mul_left]
  have e2 : u % 2 ^ (32 - s) < 2 ^ (32 - s) := Nat.mod_lt _ (by omega)
  have e3 : 2 ^ s * (u % 2 ^ (32 - s) + 1) ≤ 2 ^ s * 2 ^ (32 - s) := Nat.mul_le_mul_left _ e2
  rw [Nat.mul_add, Nat.mul_one, hp] at e3
  refine ⟨?_, ?_, by rw [e1]; omega, ?_, hlt⟩
  · have : u * 2 ^ s < 4294967296 * 4294967296 := Nat.mul_lt_mul'' hu hlt
    omega
  · rw [e1, Nat.or_comm, ← Nat.two_pow_add_eq_or_of_lt hr]; omega
  · rw [Nat.div_lt_iff_lt_mul (by omega), Nat.mul_comm (2 ^ s)]
    exact Nat.mul_lt_mul_of_pos_right hu hp0
theorem left_next {xs rs : List Nat} {s n i u r : Nat} (hs : s < 32) (h : rs.length = n + 1 ∧ (∀ u ∈ rs, u < 4294967296) ∧ (∀ j, i < j → j < n + 1 → rs[j]? = some 0) ∧ (∀ u, rs[i]? = some u → u < 2 ^ s) ∧ val rs = val (xs.take i) * 2 ^ s) (hi : i < n) (hu : xs[i]? = some u) (u1 : u < 4294967296) (hr : rs[i]? = some r) :
    let rs' := (rs.set i (r + u * 2 ^ s % 4294967296)).set (i + 1) (u * 2 ^ s / 4294967296)
    rs'.length = n + 1 ∧ (∀ u ∈ rs', u < 4294967296) ∧ (∀ j, i + 1 < j → j < n + 1 → rs'[j]? = some 0) ∧ (∀ u, rs'[i + 1]? = some u → u < 2 ^ s) ∧ val rs' = val (xs.take (i + 1)) * 2 ^ s := by
  intro rs'
  obtain ⟨h1, h2, h3, h4, h5⟩ := h
  obtain ⟨a1, a2, a3, a4, a5⟩ := left_or hs (h4 r hr) u1
  have e0 := h3 (i + 1) (by omega) (by omega)
  have e1 : (rs.set i (r + u * 2 ^ s % 4294967296))[i + 1]? = some 0 := by rw [List.getElem?_set_ne (by omega)]; exact e0
  refine ⟨by simp [rs', h1], mem_set_word (mem_set_word h2 a3) (by omega), ?_, ?_, ?_⟩
  · intro j hj hj2
    show ((rs.set _ _).set _ _)[j]? = _
    rw [List.getElem?_set_ne (by omega), List.getElem?_set_ne (by omega)]
    exact h3 j (by omega) hj2
  · intro v hv
    have : ((rs.set i (r + u * 2 ^ s % 4294967296)).set (i + 1) (u * 2 ^ s / 4294967296))[i + 1]? = some (u * 2 ^ s / 4294967296) := List.getElem?_set_self (by simp; omega)
    rw [show rs' = (rs.set i (r + u * 2 ^ s % 4294967296)).set (i + 1) (u * 2 ^ s / 4294967296) from rfl, this] at hv
    have := Option.some.inj hv
    omega
  · have s1 := val_set (d := r + u * 2 ^ s % 4294967296) hr
    have s2 := val_set (d := u * 2 ^ s / 4294967296) e1
    show val ((rs.set _ _).set _ _) = _
    rw [val_take_succ hu, Nat.add_mul, ← h5, Nat.mul_assoc]
    rw [Nat.pow_succ] at s2
    have hv : u * 2 ^ s = u * 2 ^ s % 4294967296 + 4294967296 * (u * 2 ^ s / 4294967296) := by omega
    generalize u * 2 ^ s % 4294967296 = lo at *
    generalize u * 2 ^ s / 4294967296 = hi' at *
    rw [hv, Nat.mul_add, ← Nat.mul_assoc]
    rw [Nat.mul_add] at s1
    omega
set_option maxHeartbeats 2000000 in
set_option maxRecDepth 100000 in
theorem length_some (b o c n t0 : Nat) (w : World) (h0 : 0 < n) (h1 : n ≤ 1000000) (ht : 0 < t0) (ht1 : t0 < 4294967296) (hc : w.cell? ⟨b, o + (n - 1), none⟩ = some (.int .u32 (t0 : Int))) :
    Calls Tryz.prog 111 #[.slice (some ⟨b, o, none⟩) n c] w fun e w' => ∃ k : Nat, e = .returned (.int .i64 (((n : Int) - 1) * 32 + k)) ∧ 2 ^ k ≤ 2 * t0 ∧ t0 < 2 ^ k ∧ w' = w := by
  obtain ⟨i, rfl⟩ : ∃ i, n = i + 1 := ⟨n - 1, by omega⟩
  rw [Nat.add_sub_cancel] at hc
  have hi : ((i + 1 : Nat) : Int) - 1 = (i : Int) := by omega
  have hn0 : (((i + 1 : Nat) : Int) == 0) = false := by simp; omega
  have hi0 : (0 : Int) ≤ (i : Int) := by omega
  have hi1 : (i : Int) < ((i + 1 : Nat) : Int) := by omega
  go_enter Tryz.func111, Tryz.ntmps111
  go_wp2
  go_loopw [3, 4] (fun s t wr => ∃ k x : Nat, k ≤ 32 ∧ s = .int .i64 (k : Int) ∧ t = .int .u32 (x : Int) ∧ x = t0 / 2 ^ k ∧ 2 ^ k ≤ 2 * t0 ∧ wr = w) (fun _ t _ => (intOf t).toNat)
  case atStart => exact ⟨0, t0, by omega, rfl, rfl, by simp, by simp; omega, rfl⟩
  case round =>
    obtain ⟨k, x, hk, rfl, rfl, hx, h2, rfl⟩ := hrel
    have HK : Hid (x = t0 / 2 ^ k ∧ 2 ^ k ≤ 2 * t0) := ⟨hx, h2⟩
    have hP : 0 < 2 ^ k := Nat.pow_pos (by omega)
    clear hx h2
    by_cases hx0 : x = 0
    · subst hx0
      have HL : Hid (t0 < 2 ^ k) := by
        have h := HK.out.1
        rcases Nat.lt_or_ge t0 (2 ^ k) with h' | h'
        · exact h'
        · have := Nat.div_pos h' hP; omega
      clear hP
      go_wp2
      go_ret
      refine ⟨k, ?_, HK.out.2, HL.out, rfl⟩
      show Ending.returned (.int .i64 _) = _
      congr 2
      omega
    · have hge : 2 ^ k ≤ t0 := by
        rcases Nat.lt_or_ge t0 (2 ^ k) with h' | h'
        · have := Nat.div_eq_of_lt h'; have := HK.out.1; omega
        · exact h'
      have hk1 : k < 32 := (Nat.pow_lt_pow_iff_right (a := 2) (by omega)).1 (show 2 ^ k < 2 ^ 32 by omega)
      have HG : Hid (2 ^ k ≤ t0) := hge
      have hx32 : x < 4294967296 := by have h := HK.out.1; have := Nat.div_le_self t0 (2 ^ k); omega
      have hxz : ((x : Int) != 0) = true := by rw [bne_iff_ne]; omega
      clear hge hP
      go_wp2
      go_roundw
      case rel =>
        refine ⟨k + 1, x / 2, by omega, by first | rfl | go_num, by first | rfl | go_num | (congr 1; omega), ?_, ?_, trivial⟩
        · rw [HK.out.1, Nat.div_div_eq_div_mul, Nat.pow_succ]
        · rw [Nat.pow_succ]; have := HG.out; omega
      case measure => simp [intOf]; omega
set_option maxHeartbeats 2000000 in
set_option maxRecDepth 100000 in
theorem left_some (b o c s : Nat) (xs : List Nat) (w : World) (h0 : 0 < xs.length) (h1 : xs.length ≤ 900000) (hx : ∀ u ∈ xs, u < 4294967296) (hs : s < 32)
    (cx : ∀ (i u : Nat), xs[i]? = some u → w.cell? ⟨b, o + i, none⟩ = some (.int .u32 (u : Int))) :
    Calls Tryz.prog 112 #[.slice (some ⟨b, o, none⟩) xs.length c, .int .u64 (s : Int)] w fun e w' => ∃ v, e = .returned v ∧ NatAt w' v (val xs * 2 ^ s) ∧ Below w.heap.size w w' := by
  have HX : Hid (∀ u ∈ xs, u < 4294967296) := hx
  have CX : Hid (∀ (i u : Nat), xs[i]? = some u → w.cell? ⟨b, o + i, none⟩ = some (.int .u32 (u : Int))) := cx
  generalize hn : xs.length = n at *
  have HN : Hid (xs.length = n) := hn
  have hmk := run_make_row' (P := Tryz.prog) 100 141 (.int .u32 0) 4 Tryz.underlying100 infoU32' rfl .i64 .i64 (n + 1) (by omega) (by omega)
  have hcast : ((n + 1 : Nat) : Int) = (n : Int) + 1 := by omega
  rw [hcast] at hmk
  have hn0 : ((n : Int) == 0) = false := by simp; omega
  have e1 : (s : Int) / 32 = 0 := by omega
  have e2 : (s : Int) % 32 = (s : Int) := by omega
  have e3 : (s : Int).tmod 32 = (s : Int) := by rw [Int.tmod_eq_emod_of_nonneg (by omega)]; omega
  have e4 : (s : Int).tdiv 32 = 0 := by rw [Int.tdiv_eq_ediv_of_nonneg (by omega)]; omega
  clear hn hx cx
  go_enter Tryz.func112, Tryz.ntmps112
  go_wp2
  go_loopw [8] (fun t wr => ∃ (i : Nat) (rs : List Nat), i ≤ n ∧ t = .int .i64 i ∧ rs.length = n + 1 ∧ (∀ u ∈ rs, u < 4294967296) ∧ (∀ j, i < j → j < n + 1 → rs[j]? = some 0) ∧ (∀ u, rs[i]? = some u → u < 2 ^ s) ∧ val rs = val (xs.take i) * 2 ^ s ∧ RowW wr w.heap.size (n + 1) rs ∧ Below w.heap.size w wr) (fun t _ => n - (intOf t).toNat)
  case atStart =>
    refine ⟨0, List.replicate (n + 1) 0, Nat.zero_le _, rfl, by simp, by simp, ?_, ?_, by simp [val, val_zeros], ?_, (Below.refl _ _).alloc (Nat.le_refl _) _⟩
    · intro j _ hj; simp [hj]
    · intro u hu
      have : u = 0 := by simpa using hu.symm
      rw [this]; exact Nat.pow_pos (by omega)
    · exact (World.rowIs_made w (.int .u32 0) (n + 1) 141).congr fun i hi => by simp [List.getD, hi]
  case round =>
    obtain ⟨i, rs, hi, rfl, hrl, hrw, hrz, hrc, hval, hrow, hb⟩ := hrel
    have HW : Hid (RowW wr w.heap.size (n + 1) rs) := hrow
    have HR : Hid (rs.length = n + 1 ∧ (∀ u ∈ rs, u < 4294967296) ∧ (∀ j, i < j → j < n + 1 → rs[j]? = some 0) ∧ (∀ u, rs[i]? = some u → u < 2 ^ s) ∧ val rs = val (xs.take i) * 2 ^ s) := ⟨hrl, hrw, hrz, hrc, hval⟩
    clear hrl hrw hrz hrc hval hrow
    by_cases hlt : i < n
    · obtain ⟨u, hu⟩ : ∃ u, xs[i]? = some u := ⟨_, List.getElem?_eq_getElem (by have := HN.out; omega)⟩
      obtain ⟨r, hr⟩ : ∃ r, rs[i]? = some r := ⟨_, List.getElem?_eq_getElem (by have := HR.out.1; omega)⟩
      have u1 := HX.out u (List.mem_of_getElem? hu)
      have c1 := cell_below' hb (CX.out i u hu)
      have HU : Hid (xs[i]? = some u) := hu
      have HRi : Hid (rs[i]? = some r) := hr
      have c2 : wr.cell? ⟨w.heap.size, i, none⟩ = some (.int .u32 (r : Int)) := by
        have := World.rowIs.cell HW.out (show i < n + 1 by omega)
        simpa [List.getD, hr] using this
      have c3 : wr.cell? ⟨w.heap.size, i + 1, none⟩ = some (.int .u32 0) := by
        have := World.rowIs.cell HW.out (show i + 1 < n + 1 by omega)
        simpa [List.getD, HR.out.2.2.1 (i + 1) (by omega) (by omega)] using this
      have c4 := World.rowIs.frozen HW.out i
      have c5 := World.rowIs.frozen HW.out (i + 1)
      have p1 : (0 : Int) ≤ (i : Int) := by omega
      have p2 : (i : Int) < (n : Int) := by omega
      have p3 : (i : Int) < (n : Int) + 1 := by omega
      clear hu hr
      go_wp2
      go_roundw
      case rel =>
        obtain ⟨a1, a2, a3, a4, a5⟩ := left_or hs (HR.out.2.2.2.1 r HRi.out) u1
        obtain ⟨n1, n2, n3, n4, n5⟩ := left_next hs HR.out hlt HU.out u1 HRi.out
        have k0 : IntKind.u64.wrap ((u : Int) * 2 ^ s) = ((u * 2 ^ s : Nat) : Int) := by
          rw [IntKind.wrap_u64]
          have : (u : Int) * 2 ^ s = ((u * 2 ^ s : Nat) : Int) := by simp
          rw [this]
          omega
        have k1 : ((u * 2 ^ s : Nat) : Int) % 4294967296 = ((u * 2 ^ s % 4294967296 : Nat) : Int) := by omega
        have k2 : ((u * 2 ^ s : Nat) : Int) / 4294967296 % 4294967296 = ((u * 2 ^ s / 4294967296 : Nat) : Int) := by omega
        have k3 : bits .or .u32 (r : Int) ((u * 2 ^ s % 4294967296 : Nat) : Int) = ((r + u * 2 ^ s % 4294967296 : Nat) : Int) := by
          rw [or32 _ _ (by omega) (by omega), a2]
        have k4 : bits .or .u32 0 ((u * 2 ^ s / 4294967296 : Nat) : Int) = ((u * 2 ^ s / 4294967296 : Nat) : Int) := by
          have := or32 0 (u * 2 ^ s / 4294967296) (by omega) (by omega)
          rw [Nat.zero_or] at this
          exact this
        rw [k0, k1, k2, k3, k4]
        exact ⟨i + 1, _, by omega, by go_num, n1, n2, n3, n4, n5, RowW.put (RowW.put HW.out (by have := HR.out.1; omega)) (by have := HR.out.1; simp; omega), (hb.setCell (Nat.le_refl _) _).setCell (Nat.le_refl _) _⟩
      case measure => simp [intOf]; omega
    · have hin : i = n := by omega
      have HF : Hid (rs.length = n + 1 ∧ (∀ x ∈ rs, x < 4294967296) ∧ val rs = val xs * 2 ^ s) := by
        refine ⟨HR.out.1, HR.out.2.1, ?_⟩
        rw [HR.out.2.2.2.2, hin, List.take_of_length_le (by have := HN.out; omega)]
      go_wp2_with fail
      refine (trim_any _ (HW.out.wordsAt HF.out.1 (by unfold maxLen; omega)) HF.out.2.1 (by rw [HF.out.1]; omega)).mono ?_
      rintro e' w2' ⟨v, rfl, hv, rfl⟩
      have HV2 : Hid (NatAt w2' v (val xs * 2 ^ s)) := by
        rw [HF.out.2.2] at hv
        exact hv
      clear hv
      go_wp2
      go_ret
      exact ⟨_, rfl, HV2.out, hb⟩
end Go.Proofs.YtnppmigncjakeaaGreatDoor
