/-
  millracebig.small at every number and every word that is not 0: quotient and rest; div by one word; nothing that was there before is otherwise.
-/
import Derived.Test.YtnppmigncjakeaaGreatDoorGh
namespace Go.Proofs.YtnppmigncjakeaaGreatDoor
open Go.RowKit Go.Deep

theorem or_words' (u v : Nat) (hu : u < 4294967296) : v * 4294967296 ||| u = u + v * 4294967296 := by
  rw [Nat.or_comm]; exact or_words u v hu
theorem val_drop {ws : List Nat} {i u : Nat} (h : ws[i]? = some u) : val (ws.drop i) = u + 4294967296 * val (ws.drop (i + 1)) := by
  obtain ⟨a, b⟩ := List.getElem?_eq_some_iff.1 h
  rw [List.drop_eq_getElem_cons a, b]; rfl
theorem small_step {d r u q s Q X : Nat} (hX : X = d * Q + r) (hq : r * 4294967296 + u = d * q + s) : u + 4294967296 * X = d * (q + 4294967296 * Q) + s := by
  rw [hX, Nat.mul_add, Nat.mul_add, Nat.mul_left_comm 4294967296 d Q]; omega
theorem small_next {xs qs : List Nat} {i n d r u : Nat} (hd : 0 < d) (h : qs.length = n ∧ (∀ x ∈ qs, x < 4294967296) ∧ r < d ∧ val (xs.drop (i + 1)) = d * val (qs.drop (i + 1)) + r) (hi : i < n) (hu : xs[i]? = some u) (u1 : u < 4294967296) :
    (qs.set i ((u + r * 4294967296) / d)).length = n ∧ (∀ x ∈ qs.set i ((u + r * 4294967296) / d), x < 4294967296) ∧ (u + r * 4294967296) % d < d ∧ val (xs.drop i) = d * val ((qs.set i ((u + r * 4294967296) / d)).drop i) + (u + r * 4294967296) % d := by
  obtain ⟨h1, h2, h3, h4⟩ := h
  have hlt : (u + r * 4294967296) / d < 4294967296 := by
    rw [Nat.div_lt_iff_lt_mul hd]
    have : (r + 1) * 4294967296 ≤ d * 4294967296 := Nat.mul_le_mul_right _ h3
    rw [Nat.mul_comm 4294967296 d]
    omega
  have hm : (u + r * 4294967296) % d < d := Nat.mod_lt _ hd
  have he := Nat.div_add_mod (u + r * 4294967296) d
  generalize (u + r * 4294967296) / d = q at *
  generalize (u + r * 4294967296) % d = s at *
  have hs : (qs.set i q)[i]? = some q := by rw [List.getElem?_set_self (by omega)]
  refine ⟨by simpa using h1, ?_, hm, ?_⟩
  · intro x hx
    rcases List.mem_or_eq_of_mem_set hx with h | h
    · exact h2 x h
    · omega
  · rw [val_drop hu, val_drop hs, List.drop_set_of_lt (by omega)]
    exact small_step h4 (by omega)

set_option maxHeartbeats 2000000 in
set_option maxRecDepth 100000 in
theorem small_some (b o c : Nat) (xs : List Nat) (d : Nat) (w : World) (h0 : 0 < xs.length) (h1 : xs.length ≤ 1000000) (hx : ∀ u ∈ xs, u < 4294967296) (hd0 : 0 < d) (hd1 : d < 4294967296)
    (cx : ∀ (i u : Nat), xs[i]? = some u → w.cell? ⟨b, o + i, none⟩ = some (.int .u32 (u : Int))) :
    Calls Tryz.prog 110 #[.slice (some ⟨b, o, none⟩) xs.length c, .int .u32 (d : Int)] w fun e w' => ∃ v, e = .returned (.tuple #[v, .int .u32 ((val xs % d : Nat) : Int)]) ∧ NatAt w' v (val xs / d) ∧ Below w.heap.size w w' := by
  have HX : Hid (∀ u ∈ xs, u < 4294967296) := hx
  have CX : Hid (∀ (i u : Nat), xs[i]? = some u → w.cell? ⟨b, o + i, none⟩ = some (.int .u32 (u : Int))) := cx
  have HD : Hid (0 < d ∧ d < 4294967296) := ⟨hd0, hd1⟩
  generalize hn : xs.length = n at *
  have HN : Hid (xs.length = n) := hn
  have hmk := run_make_row' (P := Tryz.prog) 100 141 (.int .u32 0) 4 Tryz.underlying100 infoU32' rfl .i64 .i64 n (by omega) (by omega)
  have hdz : ((d : Int) == 0) = false := by simp; omega
  have hdn : ¬ (d : Int) = 0 := by omega
  have hdm : ¬ d = 0 := by omega
  clear hn hx cx
  go_enter Tryz.func110, Tryz.ntmps110
  go_wp2
  go_loopw [7, 8] (fun s t wr => ∃ (k r : Nat) (qs : List Nat), k ≤ n ∧ s = .int .u64 (r : Int) ∧ t = .int .i64 ((k : Int) - 1) ∧ qs.length = n ∧ (∀ u ∈ qs, u < 4294967296) ∧ r < d ∧ val (xs.drop k) = d * val (qs.drop k) + r ∧ RowW wr w.heap.size n qs ∧ Below w.heap.size w wr) (fun _ t _ => (intOf t + 1).toNat)
  case atStart =>
    refine ⟨n, 0, List.replicate n 0, Nat.le_refl _, rfl, by first | rfl | go_num, by simp, by simp, hd0, ?_, ?_, (Below.refl _ _).alloc (Nat.le_refl _) _⟩
    · rw [List.drop_of_length_le (by have := HN.out; omega), List.drop_of_length_le (by simp)]; simp [val]
    · exact (World.rowIs_made w (.int .u32 0) n 141).congr fun i hi => by simp [List.getD, hi]
  case round =>
    obtain ⟨k, r, qs, hk, rfl, rfl, hql, hqw, hrd, hval, hrow, hb⟩ := hrel
    have HR : Hid (qs.length = n ∧ (∀ u ∈ qs, u < 4294967296) ∧ r < d ∧ val (xs.drop k) = d * val (qs.drop k) + r) := ⟨hql, hqw, hrd, hval⟩
    have HW : Hid (RowW wr w.heap.size n qs) := hrow
    clear hql hqw hval hrow
    by_cases hk0 : k = 0
    · subst hk0
      have hr32 : (r : Int) % 4294967296 = (r : Int) := by omega
      have HF : Hid (val qs = val xs / d ∧ r = val xs % d) := by
        have h4 := HR.out.2.2.2
        simp only [List.drop_zero] at h4
        refine ⟨?_, ?_⟩
        · rw [h4, Nat.mul_add_div HD.out.1, Nat.div_eq_of_lt hrd]; rfl
        · rw [h4, Nat.mul_add_mod, Nat.mod_eq_of_lt hrd]
      go_wp2_with fail
      refine (trim_any _ (HW.out.wordsAt HR.out.1 (by unfold maxLen; omega)) HR.out.2.1 (by rw [HR.out.1]; omega)).mono ?_
      rintro e' w2' ⟨v, rfl, hv, rfl⟩
      have HV2 : Hid (NatAt w2' v (val xs / d)) := by
        rw [HF.out.1] at hv
        exact hv
      have HRR : Hid (r = val xs % d) := HF.out.2
      clear hv HF
      go_wp2
      go_ret2
      refine ⟨v, ?_, HV2.out, hb⟩
      rw [← HRR.out]; rfl
    · obtain ⟨i, hi⟩ : ∃ i, k = i + 1 := ⟨k - 1, by omega⟩
      subst hi
      have e1 : ((i + 1 : Nat) : Int) - 1 = (i : Int) := by omega
      rw [e1]
      clear e1 hk0
      obtain ⟨u, hu⟩ : ∃ u, xs[i]? = some u := ⟨_, List.getElem?_eq_getElem (by have := HN.out; omega)⟩
      have c1 := cell_below' hb (CX.out i u hu)
      have u1 := HX.out u (List.mem_of_getElem? hu)
      have HU : Hid (xs[i]? = some u) := hu
      have hi0 : (0 : Int) ≤ (i : Int) := by omega
      have hin : (i : Int) < (n : Int) := by omega
      have c3 : ∃ z, wr.cell? ⟨w.heap.size, i, none⟩ = some z := ⟨_, World.rowIs.cell HW.out (show i < n by omega)⟩
      obtain ⟨z, c3⟩ := c3
      have c4 := World.rowIs.frozen HW.out i
      have e2 : IntKind.u64.wrap ((r : Int) * 4294967296) = (r : Int) * 4294967296 := by rw [IntKind.wrap_u64]; omega
      have e3 : bits .or .u64 ((r : Int) * 4294967296) (u : Int) = ((u + r * 4294967296 : Nat) : Int) := by
        have e1 : (r : Int) * 4294967296 = ((r * 4294967296 : Nat) : Int) := by simp
        rw [e1, bits_or_u64_nat (r * 4294967296) u (by omega) (by omega), or_words' u r u1]
      clear hu
      go_wp2
      go_roundw
      case rel =>
        obtain ⟨n1, n2, n3, n4⟩ := small_next HD.out.1 HR.out (by omega) HU.out u1
        have qb : (u + r * 4294967296) / d < 4294967296 := by
          have := n2 ((u + r * 4294967296) / d) (List.mem_of_getElem? (List.getElem?_set_self (i := i) (by have := HR.out.1; omega)))
          exact this
        have k0 : (u : Int) + (r : Int) * 4294967296 = ((u + r * 4294967296 : Nat) : Int) := by simp
        have k1 : ((u : Int) + (r : Int) * 4294967296) % (d : Int) = (((u + r * 4294967296) % d : Nat) : Int) := by rw [k0, ← Int.natCast_emod]
        have k2 : ((u : Int) + (r : Int) * 4294967296) / (d : Int) % 4294967296 = (((u + r * 4294967296) / d : Nat) : Int) := by
          rw [k0, ← Int.natCast_ediv]
          generalize (u + r * 4294967296) / d = q at *
          omega
        rw [k1, k2]
        exact ⟨i, _, _, by omega, rfl, by first | rfl | go_num, n1, n2, n3, n4, HW.out.put (by have := HR.out.1; omega), hb.setCell (Nat.le_refl _) _⟩
      case measure => simp [intOf]
theorem small_any {v : Value} {n d : Nat} (w : World) (h : NatAt w v n) (h0 : 0 < n) (hd0 : 0 < d) (hd1 : d < 4294967296) :
    Calls Tryz.prog 110 #[v, .int .u32 (d : Int)] w fun e w' => ∃ q, e = .returned (.tuple #[q, .int .u32 ((n % d : Nat) : Int)]) ∧ NatAt w' q (n / d) ∧ Below w.heap.size w w' := by
  obtain ⟨xs, ⟨x, c, rfl, _, _, hx⟩, cx, rfl, lx⟩ := h
  rcases hx with hx | ⟨b1, o1, rfl, hx⟩
  · subst hx; simp [val] at h0
  refine small_some b1 o1 c xs d w ?_ lx cx.1 hd0 hd1 hx
  rcases Nat.eq_zero_or_pos xs.length with h | h
  · rw [List.length_eq_zero_iff.1 h] at h0; simp [val] at h0
  · exact h
end Go.Proofs.YtnppmigncjakeaaGreatDoor
