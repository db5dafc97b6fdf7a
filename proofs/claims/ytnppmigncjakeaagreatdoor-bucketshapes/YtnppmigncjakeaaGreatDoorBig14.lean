/-
  millracebig.div, the long way (three words or more by two or more); nothing that was there before is otherwise.
-/
import Derived.Test.YtnppmigncjakeaaGreatDoorDivE
import Derived.Laws.CopyOwn
import Derived.Deep.DeepCutAuto
import Derived.Deep.CutBlock
namespace Go.Proofs.YtnppmigncjakeaaGreatDoor
open Go.RowKit Go.Deep

theorem rowW_splice {w : World} {b N : Nat} {c : Array Value} {zs : List Nat} (hc : c.size = N) (hz : ∀ i, i < N → c[i]? = some (.int .u32 0)) (hl : zs.length ≤ N)
    (h : w.heap[b]? = some (.cells (splice c.toList 0 (zs.map fun u : Nat => Value.int .u32 (u : Int))).toArray 141 (0, 0))) : RowW w b N (zs ++ List.replicate (N - zs.length) 0) := by
  refine ⟨_, h, ?_, ?_⟩
  · simp [splice]; omega
  · intro i hi
    by_cases hlt : i < zs.length
    · simp [splice, List.getD, List.getElem?_append_left, hlt]
    · have h1 : c.toList[i]? = some (.int .u32 0) := by simpa using hz i hi
      have h2 : (zs ++ List.replicate (N - zs.length) 0).getD i 0 = 0 := by
        rw [List.getD_eq_getElem?_getD, List.getElem?_append_right (by omega), List.getElem?_replicate]
        split <;> rfl
      show _ = some (Value.int .u32 (((zs ++ List.replicate (N - zs.length) 0).getD i 0 : Nat) : Int))
      rw [h2]
      have h3 : (splice c.toList 0 (zs.map fun u : Nat => Value.int .u32 (u : Int))) = zs.map (fun u : Nat => Value.int .u32 (u : Int)) ++ c.toList.drop zs.length := by simp [splice]
      rw [h3, List.getElem?_toArray, List.getElem?_append_right (by simp; omega), List.getElem?_drop, List.length_map, show zs.length + (i - zs.length) = i by omega, h1]
      rfl
theorem sub_w3 {u l d : Nat} (hu : u < 4294967296) (hl : l < 4294967296) (hd : d ≤ 1) : IntKind.u64.wrap (IntKind.u64.wrap ((u : Int) - l) - d) / 9223372036854775808 = (brw u l d : Nat) ∧ IntKind.u64.wrap (IntKind.u64.wrap ((u : Int) - l) - d) % 4294967296 = (rst u l d : Nat) := by
  rw [IntKind.wrap_u64, IntKind.wrap_u64]
  unfold rst brw
  split <;> constructor <;> omega
theorem rowW_below {w w' : World} {B b N : Nat} {rs : List Nat} (h : RowW w b N rs) (hb : Below B w w') (hlt : b < B) : RowW w' b N rs := by
  obtain ⟨c, h1, h2, h3⟩ := h
  exact ⟨c, by rw [hb.block b hlt]; exact h1, h2, h3⟩
theorem rowW_put_other {w : World} {b b' k N : Nat} {v : Value} {rs : List Nat} (h : RowW w b N rs) (hne : b ≠ b') : RowW (w.setCell ⟨b', k, none⟩ v) b N rs := by
  obtain ⟨c, h1, h2, h3⟩ := h
  refine ⟨c, ?_, h2, h3⟩
  rw [← h1]
  simp [World.setCell, Array.getElem?_modify, Ne.symm hne]
/-- The divisor was put back: the step is done. -/
theorem ab_dv {A L M p i g1 x0 ac X' : Nat} {us vs wsb zt qs : List Nat} (hD : Dv A vs us qs L M p (i + 1)) (hiL : i + (p + 2) < L) (hM : i < M) (hvl : vs.length = p + 2) (hvw : ∀ u ∈ vs, u < 4294967296) (hAB : AbAt wsb vs zt L i (p + 2) ac)
    (hx : wsb[i + (p + 2)]? = some x0) (hx1 : x0 < 4294967296) (hX : (x0 + ac) % 4294967296 = X') (hlow : ∀ k, k < i → wsb[k]? = us[k]?) (hhigh : ∀ k, i + (p + 2) + 1 ≤ k → wsb[k]? = us[k]?) (hG : win us i (p + 3) / val vs = g1)
    (hwin : win wsb i (p + 3) + val vs = win us i (p + 3) - win us i (p + 3) / val vs * val vs + 4294967296 ^ (p + 3)) : Dv A vs (zt.set (i + (p + 2)) X') (qs.set i g1) L M p i := by
  obtain ⟨f1, f2, f3, f4, bb, f5, f6⟩ := ab_last hAB hiL hvl hx hx1
  rw [hX] at f1 f2 f3 f4 f6
  have hwl := win_lt f2 i (p + 2 + 1)
  refine dv_step hD hiL hM hvl hvw f1 f2 (fun k' hk' => (f3 k' hk').trans (hlow k' hk')) (fun k' hk' => (f4 k' hk').trans (hhigh k' hk')) hG.symm ?_
  have hle : win us i (p + 3) / val vs * val vs ≤ win us i (p + 3) := Nat.div_mul_le_self _ _
  have e7 : p + 2 + 1 = p + 3 := rfl
  rw [e7] at hwl f6
  rw [hG] at hle hwin
  generalize win (zt.set (i + (p + 2)) X') i (p + 3) = Z at *
  generalize win wsb i (p + 3) = Y at *
  generalize win us i (p + 3) = U at *
  generalize g1 * val vs = gv at *
  generalize 4294967296 ^ (p + 3) = NN at *
  generalize val vs = V at *
  clear f1 f2 f3 f4 hlow hhigh hvw hvl hx hAB hD hX e7 hG
  have hbb : bb = 1 := by
    rcases (show bb = 0 ∨ bb = 1 by omega) with h | h
    · rw [h, Nat.mul_zero, Nat.add_zero] at f6
      omega
    · exact h
  rw [hbb, Nat.mul_one] at f6
  omega
set_option maxHeartbeats 4000000 in
set_option maxRecDepth 100000 in
theorem div_long {v1 v2 : Value} {n m : Nat} (w : World) (h1 : NatAt w v1 n) (h2 : NatAt w v2 m) (hm : 4294967296 ≤ m) (hmn : m ≤ n) (hn : 18446744073709551616 ≤ n) (hn1 : n < 4294967296 ^ 50) :
    Calls Tryz.prog 104 #[v1, v2] w fun e w' => ∃ q r, e = .returned (.tuple #[q, r]) ∧ NatAt w' q (n / m) ∧ NatAt w' r (n % m) ∧ Below w.heap.size w w' := by
  have H1 : Hid (NatAt w v1 n) := h1
  have H2 : Hid (NatAt w v2 m) := h2
  obtain ⟨xs, ⟨x, c, rfl, _, _, hx⟩, cx, ex, lx⟩ := h1
  obtain ⟨ys, ⟨y, d, rfl, _, _, hy⟩, cy, ey, ly⟩ := h2
  have hk2 : ¬ xs.length ≤ 2 := by
    intro h
    have h1 := val_lt cx.1
    have h2 : 4294967296 ^ xs.length ≤ 4294967296 ^ 2 := Nat.pow_le_pow_right (by omega) h
    omega
  have hl2 : ¬ ys.length ≤ 1 := by
    intro h
    have h1 := val_lt cy.1
    have h2 : 4294967296 ^ ys.length ≤ 4294967296 ^ 1 := Nat.pow_le_pow_right (by omega) h
    omega
  obtain ⟨p, hp⟩ : ∃ p, ys.length = p + 2 := ⟨ys.length - 2, by omega⟩
  have hlx := len_le cx (show val xs < 4294967296 ^ 50 by rw [ex]; exact hn1)
  have hly := len_le cy (show val ys < 4294967296 ^ 50 by rw [ey]; omega)
  obtain ⟨t0, ht0⟩ : ∃ t0, ys[p + 1]? = some t0 := ⟨_, List.getElem?_eq_getElem (by omega)⟩
  have ht1 := cy.1 t0 (List.mem_of_getElem? ht0)
  have ht2 : 0 < t0 := by
    rcases Nat.eq_zero_or_pos t0 with h | h
    · exfalso; apply cy.2; rw [List.getLast?_eq_getElem?, hp, ← h]; exact ht0
    · exact h
  rcases hy with hy | ⟨b, o, rfl, hy⟩
  · rw [hy] at hp; simp at hp
  have C0 : Hid (w.cell? ⟨b, o + (p + 2 - 1), none⟩ = some (.int .u32 (t0 : Int))) := hy (p + 1) t0 ht0
  have HY : Hid (ys.length = p + 1 + 1 ∧ ys[p + 1]? = some t0 ∧ (∀ u ∈ ys, u < 4294967296) ∧ val ys = m) := ⟨hp, ht0, cy.1, ey⟩
  have HT : Hid (0 < t0 ∧ t0 < 4294967296) := ⟨ht2, ht1⟩
  rw [hp] at H2 hly ⊢
  have hpk : p + 2 ≤ xs.length := by rw [← hp]; exact len_mono cy cx (by rw [ex, ey]; exact hmn)
  have HXL : Hid (n < 4294967296 ^ xs.length) := by have := val_lt cx.1; rw [ex] at this; exact this
  generalize xs.length = k at *
  have hk3 : ¬ ((k : Int) ≤ 2) := by omega
  have hl3 : ¬ ((p : Int) + 2 = 0) := by omega
  have hl4 : ¬ ((p : Int) + 2 = 1) := by omega
  have HM : Hid (4294967296 ≤ m ∧ m ≤ n ∧ n < 4294967296 ^ 50) := ⟨hm, hmn, hn1⟩
  have hcm : decide (cmpOf n m < 0) = false := by unfold cmpOf; rw [if_neg (by omega)]; split <;> simp
  clear hx cx ex lx hy cy ey ly hm hmn hn hn1 hp ht0 ht1 ht2 hk2 hl2
  go_enter Tryz.func104, Tryz.ntmps104
  go_wp2_with fail
  refine (cmp_any _ H1.out H2.out).mono ?_
  rintro e w1 ⟨rfl, hb1⟩
  generalize cmpOf n m = cm at *
  have H1' : Hid (NatAt w1 (.slice x k c) n) := H1.out.below hb1
  have H2' : Hid (NatAt w1 (.slice (some ⟨b, o, none⟩) (p + 2) d) m) := H2.out.below hb1
  have C1 : Hid (w1.cell? ⟨b, o + (p + 2 - 1), none⟩ = some (.int .u32 (t0 : Int))) := cell_below' hb1 C0.out
  have B1 : Hid (Below w.heap.size w w1) := hb1
  clear hb1
  go_wp2_with fail
  refine (length_some b o d (p + 2) t0 w1 (by omega) (by omega) HT.out.1 HT.out.2 C1.out).mono ?_
  rintro e w2 ⟨kk, rfl, hk1, hk2, rfl⟩
  have hkk : 1 ≤ kk ∧ kk ≤ 32 := by
    refine ⟨?_, ?_⟩
    · rcases Nat.eq_zero_or_pos kk with h | h
      · rw [h] at hk2; have := HT.out; simp at hk2; omega
      · exact h
    · rcases Nat.lt_or_ge 32 kk with h | h
      · exfalso
        have : 2 ^ 33 ≤ 2 ^ kk := Nat.pow_le_pow_right (by omega) h
        have := HT.out
        omega
      · exact h
  obtain ⟨s, hs⟩ : ∃ s, s + kk = 32 := ⟨32 - kk, by omega⟩
  have HS : Hid (s + kk = 32 ∧ 2 ^ kk ≤ 2 * t0 ∧ t0 < 2 ^ kk) := ⟨hs, hk1, hk2⟩
  have s1 : (((p + 2 : Nat) : Int) - 1) * 32 + (kk : Int) - 1 = 32 * ((p : Int) + 1) + ((kk : Int) - 1) := by omega
  clear hk1 hk2
  go_wp2_with fail
  have es : 32 - (((p : Int) + 2 - 1) * 32 + (kk : Int) - 1) % 32 - 1 = (s : Int) := by omega
  rw [es]
  have hs32 : s < 32 := by omega
  clear es s1 hkk
  refine (left_any _ H2'.out hs32 (by have := HM.out; omega) (by have := HM.out; omega)).mono ?_
  rintro e w3 ⟨vv, rfl, hvv, hb3⟩
  obtain ⟨vs, ⟨z, cz, rfl, _, _, hz⟩, cv, ev, lv⟩ := hvv
  obtain ⟨hvl, top, htop, htop1⟩ := norm_top HY.out.1 HY.out.2.1 HS.out.2.1 HS.out.2.2 HS.out.1 HY.out.2.2.1 cv.1 (by rw [ev, HY.out.2.2.2]) (fun h => len_le cv h)
  obtain ⟨next, hnext⟩ : ∃ next, vs[p]? = some next := ⟨_, List.getElem?_eq_getElem (by omega)⟩
  rcases hz with hz | ⟨vb, vo, rfl, hz⟩
  · rw [hz] at hvl; simp at hvl
  have HV : Hid (vs.length = p + 2 ∧ vs[p + 1]? = some top ∧ vs[p]? = some next ∧ 2147483648 ≤ top ∧ (∀ u ∈ vs, u < 4294967296) ∧ val vs = m * 2 ^ s) := ⟨hvl, htop, hnext, htop1, cv.1, ev⟩
  have CV : Hid (∀ (i u : Nat), vs[i]? = some u → w3.cell? ⟨vb, vo + i, none⟩ = some (.int .u32 (u : Int))) := hz
  have B3 : Hid (Below w.heap.size w w3) := B1.out.trans (hb3.mono B1.out.size)
  have H1'' : Hid (NatAt w3 (.slice x k c) n) := H1'.out.below hb3
  rw [hvl]
  clear hvl htop hnext htop1 cv ev lv hz hb3
  have hmk := run_make_row' (P := Tryz.prog) 100 141 (.int .u32 0) 4 Tryz.underlying100 infoU32' rfl .i64 .i64 (k + 2) (by omega) (by omega)
  have hcast : ((k + 2 : Nat) : Int) = (k : Int) + 2 := by omega
  rw [hcast] at hmk
  clear hcast
  go_wp2_with fail
  have A4 : Hid (Below w3.heap.size w3 (w3.alloc (.cells (madeCells #[.int .u32 0] (k + 2)) 141))) := (Below.refl _ _).alloc (Nat.le_refl _) _
  have HRM : Hid ((w3.alloc (.cells (madeCells #[.int .u32 0] (k + 2)) 141)).rowIs w3.heap.size 141 (k + 2) (fun _ => .int .u32 0)) := World.rowIs_made w3 (.int .u32 0) (k + 2) 141
  have S4 : Hid ((w3.alloc (.cells (madeCells #[.int .u32 0] (k + 2)) 141)).heap.size = w3.heap.size + 1) := by show _ = _; simp
  generalize w3.alloc (.cells (madeCells #[.int .u32 0] (k + 2)) 141) = w4 at *
  refine (left_any _ (H1''.out.below A4.out) hs32 (by have := HM.out; omega) (by have := HM.out; omega)).mono ?_
  rintro e w5 ⟨uu, rfl, huu, hb5⟩
  obtain ⟨zs, ⟨zz, zc, rfl, _, _, hz⟩, cz', ez, lz⟩ := huu
  have hzl : zs.length ≤ k + 1 := by
    refine len_le cz' ?_
    rw [ez, Nat.pow_succ]
    exact Nat.mul_lt_mul'' HXL.out (Nat.pow_lt_pow_right (a := 2) (n := 32) (by omega) hs32)
  obtain ⟨cc, hcc0, hcc1, hcc2⟩ := HRM.out
  have hub : w5.heap[w3.heap.size]? = some (.cells cc 141 (0, 0)) := by rw [hb5.block _ (by have := S4.out; omega)]; exact hcc0
  obtain ⟨CS, hCS⟩ : ∃ CS, CS = zs.map fun u : Nat => Value.int .u32 (u : Int) := ⟨_, rfl⟩
  have HCS : Hid (CS = zs.map fun u : Nat => Value.int .u32 (u : Int)) := hCS
  have hCL : CS.length = zs.length := by rw [hCS]; simp
  have hz0 : 0 < zs.length := by
    rcases Nat.eq_zero_or_pos zs.length with h | h
    · exfalso
      rw [List.length_eq_zero_iff.1 h] at ez
      have h1 : 0 < n * 2 ^ s := Nat.mul_pos (by have := HM.out; omega) (Nat.pow_pos (by omega))
      simp [val] at ez
      omega
    · exact h
  rcases hz with hz | ⟨zb, zo, rfl, hz⟩
  · rw [hz] at hz0; simp at hz0
  have HSRC : Hid (∀ j v, CS[j]? = some v → w5.cell? (Addr.add ⟨zb, zo, none⟩ j) = some v) := by
    intro j v hj
    rw [hCS, List.getElem?_map] at hj
    obtain ⟨u, hu, rfl⟩ := Option.map_eq_some_iff.1 hj
    have := hz j u hu
    by_cases hj0 : j = 0
    · subst hj0; simpa [Addr.add] using this
    · simpa [Addr.add, hj0] using this
  have HONE : Hid (∀ v ∈ CS, v.oneCell' = true) := by
    intro v hv
    rw [hCS] at hv
    obtain ⟨u, _, rfl⟩ := List.mem_map.1 hv
    rfl
  have HZ : Hid (zs.length ≤ k + 1 ∧ (∀ u ∈ zs, u < 4294967296) ∧ val zs = n * 2 ^ s) := ⟨hzl, cz'.1, ez⟩
  have HCC : Hid (cc.size = k + 2 ∧ (∀ i, i < k + 2 → cc[i]? = some (.int .u32 0))) := ⟨hcc1, hcc2⟩
  have HLEN : Hid (CS.length = zs.length) := hCL
  have B5 : Hid (Below w3.heap.size w3 w5) := A4.out.trans (hb5.mono A4.out.size)
  have hcp := run_copy_row (P := Tryz.prog) w5 100 100 3 141 w3.heap.size 0 (k + 2) (k + 2) ⟨zb, zo, none⟩ zs.length zc cc 141 CS Tryz.underlying100 (by kernel_rfl) hub (by rw [hCL]; exact (Nat.min_eq_left (by omega)).symm) HSRC.out (by omega) HONE.out
  have HRW : Hid (RowW (w5.setRow w3.heap.size (cc.toList.take 0 ++ CS ++ cc.toList.drop (0 + CS.length)).toArray) w3.heap.size (k + 2) (zs ++ List.replicate (k + 2 - zs.length) 0)) := by
    refine rowW_splice HCC.out.1 HCC.out.2 (by omega) ?_
    rw [← hCS]
    simpa [splice] using setRow_heap w5 w3.heap.size _ _ 141 _ hub
  have B6 : Hid (Below w3.heap.size w3 (w5.setRow w3.heap.size (cc.toList.take 0 ++ CS ++ cc.toList.drop (0 + CS.length)).toArray)) := below_setRow B5.out (Nat.le_refl _) _
  have LT6 : Hid (w3.heap.size < (w5.setRow w3.heap.size (cc.toList.take 0 ++ CS ++ cc.toList.drop (0 + CS.length)).toArray).heap.size) := by
    show _ < _
    have h := HRW.out
    obtain ⟨c1, hc1, _⟩ := h
    exact (List.getElem?_eq_some_iff.1 (by simpa using hc1)).1
  generalize w5.setRow w3.heap.size (cc.toList.take 0 ++ CS ++ cc.toList.drop (0 + CS.length)).toArray = w6 at *
  clear hz cz' ez lz hcc0 hcc1 hcc2 hub hCS hCL hb5 hz0 hzl hmk
  obtain ⟨M, hM⟩ : ∃ M, k = p + M := ⟨k - p, by omega⟩
  have hmk := run_make_row' (P := Tryz.prog) 100 141 (.int .u32 0) 4 Tryz.underlying100 infoU32' rfl .i64 .i64 M (by omega) (by omega)
  have hcast : ((M : Nat) : Int) = (k : Int) + 2 - ((p : Int) + 1 + 1) := by omega
  rw [hcast] at hmk
  have HMM : Hid (k = p + M ∧ p + 2 ≤ k) := ⟨hM, hpk⟩
  have HCA : Hid ((M : Int) = (k : Int) + 2 - ((p : Int) + 1 + 1)) := hcast
  clear hM hcast hpk
  have c7 : w6.cell? ⟨vb, vo + (p + 1), none⟩ = some (.int .u32 (top : Int)) := cell_below' B6.out (CV.out _ _ HV.out.2.1)
  have c8 : w6.cell? ⟨vb, vo + p, none⟩ = some (.int .u32 (next : Int)) := cell_below' B6.out (CV.out _ _ HV.out.2.2.1)
  have x1 : (0 : Int) ≤ (p : Int) + 1 + 1 - 1 := by omega
  have x2 : (p : Int) + 1 + 1 - 1 < (p : Int) + 1 + 1 := by omega
  have x3 : (0 : Int) ≤ (p : Int) + 1 + 1 - 2 := by omega
  have x4 : (p : Int) + 1 + 1 - 2 < (p : Int) + 1 + 1 := by omega
  have x5 : ((p : Int) + 1 + 1 - 1).toNat = p + 1 := by omega
  have x6 : ((p : Int) + 1 + 1 - 2).toNat = p := by omega
  go_wp2_with fail
  have b7 : Below w6.heap.size w6 (w6.alloc (.cells (madeCells #[.int .u32 0] M) 141)) := (Below.refl _ _).alloc (Nat.le_refl _) _
  have R7 : Hid (RowW (w6.alloc (.cells (madeCells #[.int .u32 0] M) 141)) w3.heap.size (k + 2) (zs ++ List.replicate (k + 2 - zs.length) 0) ∧ RowW (w6.alloc (.cells (madeCells #[.int .u32 0] M) 141)) w6.heap.size M (List.replicate M 0) ∧ Below w3.heap.size w3 (w6.alloc (.cells (madeCells #[.int .u32 0] M) 141)) ∧ w3.heap.size < w6.heap.size) :=
    ⟨rowW_below HRW.out b7 LT6.out, (World.rowIs_made w6 (.int .u32 0) M 141).congr fun i hi => by simp [List.getD, hi], B6.out.trans (b7.mono (Nat.le_of_lt LT6.out)), LT6.out⟩
  replace c7 : (w6.alloc (.cells (madeCells #[.int .u32 0] M) 141)).cell? ⟨vb, vo + (p + 1), none⟩ = some (.int .u32 (top : Int)) := cell_below' b7 c7
  replace c8 : (w6.alloc (.cells (madeCells #[.int .u32 0] M) 141)).cell? ⟨vb, vo + p, none⟩ = some (.int .u32 (next : Int)) := cell_below' b7 c8
  clear b7 hmk HRW B6 LT6 B5
  generalize w6.alloc (.cells (madeCells #[.int .u32 0] M) 141) = w7 at *
  generalize w6.heap.size = qb at *
  have tb : top < 4294967296 := HV.out.2.2.2.2.1 top (List.mem_of_getElem? HV.out.2.1)
  have nb : next < 4294967296 := HV.out.2.2.2.2.1 next (List.mem_of_getElem? HV.out.2.2.1)
  go_quiet (fail)
  go_wp2
  go_loopw [18] (fun t wr => ∃ (j : Nat) (us qs : List Nat), j ≤ M ∧ t = .int .i64 ((j : Int) - 1) ∧ Dv (n * 2 ^ s) vs us qs (k + 2) M p j ∧ RowW wr w3.heap.size (k + 2) us ∧ RowW wr qb M qs ∧ Below w3.heap.size w3 wr) (fun t _ => (intOf t + 1).toNat)
  case atStart =>
    have h1 := HMM.out
    have h2 := HZ.out
    refine ⟨M, _, _, Nat.le_refl _, by rw [HCA.out], ?_, R7.out.1, R7.out.2.1, below_drewN R7.out.2.2.1 _⟩
    refine dv_start (by simp; omega) ?_ (by omega) ?_ ?_ ?_
    · intro u hu
      rcases List.mem_append.1 hu with h | h
      · exact h2.2.1 u h
      · rw [List.eq_of_mem_replicate h]; omega
    · rw [val_append, val_zeros, h2.2.2]; omega
    · rw [List.getElem?_append_right (by omega), List.getElem?_replicate, if_pos (by omega)]
    · have e1 := val_take_succ HV.out.2.1
      rw [List.take_of_length_le (by have := HV.out.1; omega)] at e1
      have e2 : 4294967296 ^ (p + 1) * 1 ≤ 4294967296 ^ (p + 1) * top := Nat.mul_le_mul_left _ (by have := HV.out.2.2.2.1; omega)
      omega
  case round =>
    obtain ⟨j, us, qs, hj, rfl, hdv, hru, hrq, hbl⟩ := hrel
    have HDV : Hid (Dv (n * 2 ^ s) vs us qs (k + 2) M p j) := hdv
    have HRU : Hid (RowW wr w3.heap.size (k + 2) us ∧ RowW wr qb M qs ∧ Below w3.heap.size w3 wr) := ⟨hru, hrq, hbl⟩
    clear hdv hru hrq hbl
    by_cases hj0 : j = 0
    · as_aux_lemma =>
        subst hj0
        have hV := HV.out
        have hMM := HMM.out
        obtain ⟨f1, f2⟩ := dv_end HDV.out (by omega)
        rw [hV.2.2.2.2.2] at f1 f2
        have HF : Hid (val qs = n / m ∧ val us / 2 ^ s = n % m) := ⟨by rw [f1]; exact shift_quo.1, by rw [f2]; exact shift_quo.2⟩
        have HLT : Hid (val us < 4294967296 ^ 100) := by
          have h1 := val_lt HDV.out.word
          rw [HDV.out.len] at h1
          exact Nat.lt_of_lt_of_le h1 (Nat.pow_le_pow_right (by omega) (by omega))
        clear f1 f2 hV hMM
        go_wp2_with fail
        refine (trim_any _ (HRU.out.2.1.wordsAt HDV.out.qlen (by have := HMM.out; unfold maxLen; omega)) HDV.out.qword (by rw [HDV.out.qlen]; have := HMM.out; omega)).mono ?_
        rintro e w8 ⟨q', rfl, hq, rfl⟩
        have HQ : Hid (NatAt w8 q' (n / m)) := by rw [HF.out.1] at hq; exact hq
        clear hq
        go_wp2_with fail
        refine (trim_any _ (HRU.out.1.wordsAt HDV.out.len (by have := HMM.out; unfold maxLen; omega)) HDV.out.word (by rw [HDV.out.len]; have := HMM.out; omega)).mono ?_
        rintro e w9 ⟨r', rfl, hr, rfl⟩
        have HR' : Hid (NatAt w9 r' (val us)) := hr
        clear hr
        go_wp2_with fail
        refine (right_any _ HR'.out hs32 HLT.out).mono ?_
        rintro e w10 ⟨r2, rfl, hr2, hb10⟩
        have HFIN : Hid (NatAt w10 q' (n / m) ∧ NatAt w10 r2 (n % m) ∧ Below w.heap.size w w10) := by
          have hbw : Below w.heap.size w w9 := B3.out.trans (HRU.out.2.2.mono B3.out.size)
          refine ⟨HQ.out.below hb10, ?_, hbw.trans (hb10.mono hbw.size)⟩
          rw [HF.out.2] at hr2
          exact hr2
        clear hr2 hb10
        go_wp2
        go_ret2
        exact ⟨_, _, rfl, HFIN.out.1, HFIN.out.2.1, HFIN.out.2.2⟩
    · obtain ⟨i, hi⟩ : ∃ i, j = i + 1 := ⟨j - 1, by omega⟩
      subst hi
      have e1 : ((i + 1 : Nat) : Int) - 1 = (i : Int) := by omega
      rw [e1]
      clear e1 hj0
      have hMM := HMM.out
      have hiL : i + (p + 2) < k + 2 := by omega
      obtain ⟨u0, hu0⟩ : ∃ u, us[i + p + 2]? = some u := ⟨_, List.getElem?_eq_getElem (by have := HDV.out.len; omega)⟩
      obtain ⟨u1, hu1⟩ : ∃ u, us[i + p + 1]? = some u := ⟨_, List.getElem?_eq_getElem (by have := HDV.out.len; omega)⟩
      obtain ⟨u2, hu2⟩ : ∃ u, us[i + p]? = some u := ⟨_, List.getElem?_eq_getElem (by have := HDV.out.len; omega)⟩
      have g0 := HDV.out.word u0 (List.mem_of_getElem? hu0)
      have g1 := HDV.out.word u1 (List.mem_of_getElem? hu1)
      have g2 := HDV.out.word u2 (List.mem_of_getElem? hu2)
      have a0 : wr.cell? ⟨w3.heap.size, i + p + 2, none⟩ = some (.int .u32 (u0 : Int)) := by
        have := World.rowIs.cell HRU.out.1 (show i + p + 2 < k + 2 by omega)
        simpa [List.getD, hu0] using this
      have a1 : wr.cell? ⟨w3.heap.size, i + p + 1, none⟩ = some (.int .u32 (u1 : Int)) := by
        have := World.rowIs.cell HRU.out.1 (show i + p + 1 < k + 2 by omega)
        simpa [List.getD, hu1] using this
      have a2 : wr.cell? ⟨w3.heap.size, i + p, none⟩ = some (.int .u32 (u2 : Int)) := by
        have := World.rowIs.cell HRU.out.1 (show i + p < k + 2 by omega)
        simpa [List.getD, hu2] using this
      obtain ⟨hh, hhe⟩ : ∃ hh, u0 * 4294967296 + u1 = hh := ⟨_, rfl⟩
      have hV := HV.out
      have HEF : Hid (EstF (win us i (p + 3)) (val vs) (4294967296 ^ p) top next hh u2) := by
        rw [← hhe]
        exact estF_of hV.1 hV.2.1 hV.2.2.1 hu0 hu1 hu2 HDV.out.word hV.2.2.2.2.1 (dv_below HDV.out hiL) (by omega)
      have HE0 : Hid (Est (win us i (p + 3) / val vs) top hh (hh / top) (hh % top)) := by
        rw [← hhe]
        exact est_first rfl rfl hV.1 hV.2.1 hV.2.2.1 hu0 hu1 g1 u2 hu2 HDV.out.word hV.2.2.2.2.1 (dv_below HDV.out hiL) hV.2.2.2.1
      have ht1 := hV.2.2.2.1
      have ht2 := hV.2.2.2.2.1 top (List.mem_of_getElem? hV.2.1)
      have hn2 := hV.2.2.2.2.1 next (List.mem_of_getElem? hV.2.2.1)
      have o1 : bits .or .u64 ((u0 : Int) * 4294967296) (u1 : Int) = (hh : Int) := by
        have e1 : (u0 : Int) * 4294967296 = ((u0 * 4294967296 : Nat) : Int) := by simp
        rw [e1, bits_or_u64_nat (u0 * 4294967296) u1 (by omega) (by omega), or_words' u1 u0 g1, ← hhe]
        omega
      have HH : Hid (hh < 18446744073709551616 ∧ u0 * 4294967296 + u1 = hh) := ⟨by omega, hhe⟩
      have wh : IntKind.u64.wrap ((hh : Int) / (top : Int)) = (hh : Int) / (top : Int) := by
        have h1 := Nat.div_le_self hh top
        have h2 := HH.out.1
        rw [IntKind.wrap_u64, ← Int.natCast_ediv]
        generalize hh / top = z at *
        omega
      have HM0 : Hid (hh % top < top) := Nat.mod_lt _ (by omega)
      have tz : ((top : Int) == 0) = false := by simp; omega
      have tz1 : ¬ (top : Int) = 0 := by omega
      have tz2 : ¬ top = 0 := by omega
      have HU : Hid (us[i + p + 2]? = some u0 ∧ us[i + p + 1]? = some u1 ∧ us[i + p]? = some u2) := ⟨hu0, hu1, hu2⟩
      have y1 : (0 : Int) ≤ (i : Int) + ((p : Int) + 1 + 1) := by omega
      have y2 : (i : Int) + ((p : Int) + 1 + 1) < (k : Int) + 2 := by omega
      have y3 : ((i : Int) + ((p : Int) + 1 + 1)).toNat = i + p + 2 := by omega
      have y4 : (0 : Int) ≤ (i : Int) + ((p : Int) + 1 + 1) - 1 := by omega
      have y5 : (i : Int) + ((p : Int) + 1 + 1) - 1 < (k : Int) + 2 := by omega
      have y6 : ((i : Int) + ((p : Int) + 1 + 1) - 1).toNat = i + p + 1 := by omega
      have y7 : (0 : Int) ≤ (i : Int) + ((p : Int) + 1 + 1) - 2 := by omega
      have y8 : (i : Int) + ((p : Int) + 1 + 1) - 2 < (k : Int) + 2 := by omega
      have y9 : ((i : Int) + ((p : Int) + 1 + 1) - 2).toNat = i + p := by omega
      clear hu0 hu1 hu2 hhe hV hMM
      go_wp2_with fail
      go_quiet (fail)
      have HRN : Hid (RowW (wr.drewN nq) w3.heap.size (k + 2) us ∧ RowW (wr.drewN nq) qb M qs ∧ Below w3.heap.size w3 (wr.drewN nq)) := ⟨HRU.out.1, HRU.out.2.1, below_drewN HRU.out.2.2 _⟩
      replace a0 : (wr.drewN nq).cell? ⟨w3.heap.size, i + p + 2, none⟩ = some (.int .u32 (u0 : Int)) := a0
      replace a1 : (wr.drewN nq).cell? ⟨w3.heap.size, i + p + 1, none⟩ = some (.int .u32 (u1 : Int)) := a1
      replace a2 : (wr.drewN nq).cell? ⟨w3.heap.size, i + p, none⟩ = some (.int .u32 (u2 : Int)) := a2
      clear HRU
      generalize wr.drewN nq = wq at *
      go_wp2_with fail
      go_quiet (fail)
      have HRN' : Hid (RowW (wq.drewN nq) w3.heap.size (k + 2) us ∧ RowW (wq.drewN nq) qb M qs ∧ Below w3.heap.size w3 (wq.drewN nq)) := ⟨HRN.out.1, HRN.out.2.1, below_drewN HRN.out.2.2 _⟩
      replace a2 : (wq.drewN nq).cell? ⟨w3.heap.size, i + p, none⟩ = some (.int .u32 (u2 : Int)) := a2
      clear HRN a0 a1
      generalize wq.drewN nq = wa at *
      go_upto_block 2 with (fail)
      go_cut [20, 21] (fun g r wx => ∃ G R q : Nat, g = .int .u64 (G : Int) ∧ r = .int .u64 (R : Int) ∧ win us i (p + 3) / val vs ≤ G ∧ G ≤ win us i (p + 3) / val vs + 1 ∧ wx = wa.drewN q)
      case first =>
        as_aux_lemma =>
          go_wp2_with fail
          go_loopw [20, 21] (fun g r wx => ∃ G R q : Nat, g = .int .u64 (G : Int) ∧ r = .int .u64 (R : Int) ∧ Est (win us i (p + 3) / val vs) top hh G R ∧ R < 4294967296 ∧ wx = wa.drewN q) (fun g _ _ => (intOf g).toNat)
          case atStart => exact ⟨hh / top, hh % top, 0, by simp, by simp, HE0.out, by have := HM0.out; omega, rfl⟩
          case round =>
            obtain ⟨G, R, q, rfl, rfl, hE, hR, rfl⟩ := hrel
            have HE : Hid (Est (win us i (p + 3) / val vs) top hh G R) := hE
            have hG := hE.le
            clear hE
            by_cases hc : 4294967295 < G
            · have hc' : (4294967295 : Int) < (G : Int) := by omega
              obtain ⟨d1, d2⟩ := est_dec HEF.out HE.out (Or.inl hc)
              have HD : Hid (Est (win us i (p + 3) / val vs) top hh (G - 1) (R + top)) := d2
              clear d2
              by_cases hr : 4294967295 < R + top
              · have hr' : (4294967295 : Int) < (R : Int) + (top : Int) := by omega
                go_wp2_with fail
                go_meet
                case rel => exact ⟨G - 1, R + top, q, by congr 1; omega, by congr 1, HD.out.ge, est_done HEF.out HD.out (by omega) (Or.inr hr), rfl⟩
              · have hr' : ¬ (4294967295 : Int) < (R : Int) + (top : Int) := by omega
                go_wp2_with fail
                go_roundw
                case rel => exact ⟨G - 1, R + top, q, by congr 1; omega, by congr 1, HD.out, by omega, rfl⟩
                case measure => simp [intOf]; omega
            · have hc' : ¬ (4294967295 : Int) < (G : Int) := by omega
              obtain ⟨X, hX⟩ : ∃ X, R * 4294967296 + u2 = X := ⟨_, rfl⟩
              have o2 : bits .or .u64 ((R : Int) * 4294967296) (u2 : Int) = (X : Int) := by
                have e1 : (R : Int) * 4294967296 = ((R * 4294967296 : Nat) : Int) := by simp
                rw [e1, bits_or_u64_nat (R * 4294967296) u2 (by omega) (by omega), or_words' u2 R g2, ← hX]
                omega
              have hgn := (ms_bound (g := G) (v := next) (c := 0) (by omega) nb (by omega)).1
              have ecast : ((G * next : Nat) : Int) = (G : Int) * (next : Int) := by simp
              have q2 : IntKind.u64.wrap ((G : Int) * (next : Int)) = (G : Int) * (next : Int) := by rw [IntKind.wrap_u64, ← ecast]; omega
              have HX : Hid (R * 4294967296 + u2 = X) := hX
              by_cases hd : X < G * next
              · have hd' : (X : Int) < (G : Int) * (next : Int) := by rw [← ecast]; omega
                obtain ⟨d1, d2⟩ := est_dec HEF.out HE.out (Or.inr (by rw [hX]; exact hd))
                have HD : Hid (Est (win us i (p + 3) / val vs) top hh (G - 1) (R + top)) := d2
                clear d2 ecast hd hgn hX
                by_cases hr : 4294967295 < R + top
                · have hr' : (4294967295 : Int) < (R : Int) + (top : Int) := by omega
                  go_wp2_with fail
                  go_meet
                  case rel => exact ⟨G - 1, R + top, q, by congr 1; omega, by congr 1, HD.out.ge, est_done HEF.out HD.out (by omega) (Or.inr hr), rfl⟩
                · have hr' : ¬ (4294967295 : Int) < (R : Int) + (top : Int) := by omega
                  go_wp2_with fail
                  go_roundw
                  case rel => exact ⟨G - 1, R + top, q, by congr 1; omega, by congr 1, HD.out, by omega, rfl⟩
                  case measure => simp [intOf]; omega
              · have hd' : ¬ (X : Int) < (G : Int) * (next : Int) := by rw [← ecast]; omega
                have HDN : Hid (G ≤ win us i (p + 3) / val vs + 1) := est_done HEF.out HE.out (by omega) (Or.inl (by rw [hX]; omega))
                clear ecast hd hgn hX
                go_wp2_with fail
                go_meet
                case rel => exact ⟨G, R, q, rfl, rfl, HE.out.ge, HDN.out, rfl⟩
      case rest =>
        obtain ⟨G, R, q, rfl, rfl, hG1, hG2, rfl⟩ := hcut
        have HG : Hid (win us i (p + 3) / val vs ≤ G ∧ G ≤ win us i (p + 3) / val vs + 1) := ⟨hG1, hG2⟩
        have hGB : G ≤ 4294967296 := by have := quo_lt HEF.out.lt; generalize win us i (p + 3) / val vs = z at *; omega
        have HRB : Hid (RowW (wa.drewN q) w3.heap.size (k + 2) us ∧ RowW (wa.drewN q) qb M qs ∧ Below w3.heap.size w3 (wa.drewN q)) := ⟨HRN'.out.1, HRN'.out.2.1, below_drewN HRN'.out.2.2 _⟩
        clear hG1 hG2 a2 HRN'
        generalize wa.drewN q = wb at *
        go_wp2_with fail
        go_loopw [22, 23, 24] (fun vc vd vi wx => ∃ (cc dd ii : Nat) (ws : List Nat), ii ≤ p + 2 ∧ vc = .int .u64 (cc : Int) ∧ vd = .int .u64 (dd : Int) ∧ vi = .int .i64 (ii : Int) ∧ MsAt us vs ws (k + 2) i ii G cc dd ∧ RowW wx w3.heap.size (k + 2) ws ∧ RowW wx qb M qs ∧ Below w3.heap.size w3 wx) (fun _ _ vi _ => p + 2 - (intOf vi).toNat)
        case atStart =>
          refine ⟨0, 0, 0, us, by omega, rfl, rfl, rfl, ⟨HDV.out.len, HDV.out.word, fun _ _ => rfl, fun _ _ => rfl, ?_, by omega, by omega⟩, HRB.out.1, HRB.out.2.1, HRB.out.2.2⟩
          rw [win_zero]; simp [val]
        case round =>
          obtain ⟨cc, dd, ii, ws, hii, rfl, rfl, rfl, hms, hru, hrq, hbl⟩ := hrel
          have HMS : Hid (MsAt us vs ws (k + 2) i ii G cc dd) := hms
          have HRC : Hid (RowW wr w3.heap.size (k + 2) ws ∧ RowW wr qb M qs ∧ Below w3.heap.size w3 wr) := ⟨hru, hrq, hbl⟩
          have hcc := hms.carry
          have hdd := hms.borrow
          clear hms hru hrq hbl
          by_cases hlt : ii < p + 2
          · as_aux_lemma =>
              obtain ⟨v, hv⟩ : ∃ v, vs[ii]? = some v := ⟨_, List.getElem?_eq_getElem (by have := HV.out.1; omega)⟩
              obtain ⟨u, hu⟩ : ∃ u, us[i + ii]? = some u := ⟨_, List.getElem?_eq_getElem (by have := HDV.out.len; omega)⟩
              have v1 := HV.out.2.2.2.2.1 v (List.mem_of_getElem? hv)
              have u1' := HDV.out.word u (List.mem_of_getElem? hu)
              have b1 := cell_below' HRC.out.2.2 (CV.out ii v hv)
              have b2 : wr.cell? ⟨w3.heap.size, i + ii, none⟩ = some (.int .u32 (u : Int)) := by
                have := World.rowIs.cell HRC.out.1 (show i + ii < k + 2 by omega)
                simpa [List.getD, HMS.out.high (i + ii) (by omega), hu] using this
              have b3 := World.rowIs.frozen HRC.out.1 (i + ii)
              have HVU : Hid (vs[ii]? = some v ∧ us[i + ii]? = some u) := ⟨hv, hu⟩
              obtain ⟨Y, hY⟩ : ∃ Y, cc + G * v = Y := ⟨_, rfl⟩
              obtain ⟨m1, m2⟩ := ms_bound hGB v1 hcc
              have ecast : ((G * v : Nat) : Int) = (G : Int) * (v : Int) := by simp
              have q2 : IntKind.u64.wrap ((G : Int) * (v : Int)) = (G : Int) * (v : Int) := by rw [IntKind.wrap_u64, ← ecast]; omega
              have q3 : IntKind.u64.wrap ((cc : Int) + (G : Int) * (v : Int)) = (Y : Int) := by rw [IntKind.wrap_u64, ← ecast]; omega
              have HYe : Hid (cc + G * v = Y) := hY
              have e5 : (Y : Int) % 4294967296 = ((Y % 4294967296 : Nat) : Int) := by omega
              obtain ⟨t1, t2⟩ := sub_w3 (u := u) (l := Y % 4294967296) (d := dd) u1' (by omega) hdd
              rw [← e5] at t1 t2
              obtain ⟨T, hT⟩ : ∃ T, IntKind.u64.wrap (IntKind.u64.wrap ((u : Int) - (Y : Int) % 4294967296) - (dd : Int)) = T := ⟨_, rfl⟩
              rw [hT] at t1 t2
              have HT2 : Hid (T / 9223372036854775808 = (brw u (Y % 4294967296) dd : Nat) ∧ T % 4294967296 = (rst u (Y % 4294967296) dd : Nat)) := ⟨t1, t2⟩
              have z1 : (0 : Int) ≤ (ii : Int) + (i : Int) := by omega
              have z2 : (ii : Int) + (i : Int) < (k : Int) + 2 := by omega
              have z3 : ((ii : Int) + (i : Int)).toNat = i + ii := by omega
              have z4 : (0 : Int) ≤ (ii : Int) := by omega
              have z5 : (ii : Int) < (p : Int) + 1 + 1 := by omega
              clear hv hu ecast e5 t1 t2 m1 m2 hY
              go_wp2_with fail
              go_roundw
              case rel =>
                have hn := ms_next HMS.out hGB (show i + ii < k + 2 by omega) HVU.out.2 HVU.out.1 u1' v1
                rw [HYe.out] at hn
                rw [HT2.out.1, HT2.out.2]
                exact ⟨Y / 4294967296, _, ii + 1, _, by omega, by congr 1, rfl, by go_num, hn, RowW.put HRC.out.1 (by have := HMS.out.len; omega), rowW_put_other HRC.out.2.1 (by have := R7.out.2.2.2; omega), HRC.out.2.2.setCell (Nat.le_refl _) _⟩
              case measure => simp [intOf]; omega
          · obtain rfl : ii = p + 2 := by omega
            have u0h : ws[i + (p + 2)]? = some u0 := by rw [HMS.out.high _ (by omega)]; exact HU.out.1
            have b4 : wr.cell? ⟨w3.heap.size, i + p + 2, none⟩ = some (.int .u32 (u0 : Int)) := by
              have := World.rowIs.cell HRC.out.1 (show i + (p + 2) < k + 2 by omega)
              have h2 : wr.cell? ⟨w3.heap.size, i + (p + 2), none⟩ = some (.int .u32 (u0 : Int)) := by simpa [List.getD, u0h] using this
              exact h2
            have b5 := World.rowIs.frozen HRC.out.1 (i + p + 2)
            have b6 : ∃ z, wr.cell? ⟨qb, i, none⟩ = some z := ⟨_, World.rowIs.cell HRC.out.2.1 (show i < M by omega)⟩
            obtain ⟨qz, b6⟩ := b6
            have b7 := World.rowIs.frozen HRC.out.2.1 i
            obtain ⟨t1, t2⟩ := sub_w3 (u := u0) (l := cc) (d := dd) g0 hcc hdd
            obtain ⟨T, hT⟩ : ∃ T, IntKind.u64.wrap (IntKind.u64.wrap ((u0 : Int) - (cc : Int)) - (dd : Int)) = T := ⟨_, rfl⟩
            rw [hT] at t1 t2
            obtain ⟨f1, f2, f3, f4, f5⟩ := ms_last HMS.out (by omega) HV.out.1 HU.out.1 g0
            have hVp : 0 < val vs := by
              rcases Nat.eq_zero_or_pos (val vs) with h | h
              · have := HEF.out.lt; rw [h] at this; omega
              · exact h
            have hbr : brw u0 cc dd ≤ 1 := by unfold brw; split <;> omega
            have hUq : win us i (p + 3) < (win us i (p + 3) / val vs + 1) * val vs := by
              have h1 := Nat.div_add_mod (win us i (p + 3)) (val vs)
              have h2 := Nat.mod_lt (win us i (p + 3)) hVp
              rw [Nat.add_mul, Nat.one_mul, Nat.mul_comm (win us i (p + 3) / val vs)]
              omega
            obtain ⟨n1, n2⟩ := ms_end f5 (win_lt f2 i (p + 3)) (Nat.div_mul_le_self _ _) hUq HG.out.1 HG.out.2 hbr
            have hqB := quo_lt HEF.out.lt
            rcases (show brw u0 cc dd = 0 ∨ brw u0 cc dd = 1 by omega) with hb0 | hb1
            · as_aux_lemma =>
                obtain ⟨n3, n4⟩ := n1 hb0
                have HDN : Hid (Dv (n * 2 ^ s) vs (ws.set (i + (p + 2)) (rst u0 cc dd)) (qs.set i G) (k + 2) M p i) := dv_step HDV.out hiL (by omega) HV.out.1 HV.out.2.2.2.2.1 f1 f2 f3 f4 n3 (by rw [n3]; exact n4)
                have HT3 : Hid (T % 4294967296 = (rst u0 cc dd : Nat)) := t2
                have tq : T / 9223372036854775808 = 0 := by rw [t1, hb0]; rfl
                have hGl : G < 4294967296 := by rw [n3]; exact hqB
                clear n1 n2 n3 n4 hqB
                have hGm : (G : Int) % 4294967296 = (G : Int) := by omega
                clear t1 t2 f1 f2 f3 f4 f5 hUq hb0 hbr hVp u0h
                go_wp2_with fail
                go_roundw
                case rel =>
                  rw [HT3.out]
                  have hne : w3.heap.size ≠ qb := by have := R7.out.2.2.2; omega
                  have p1 : RowW (wr.setCell ⟨w3.heap.size, i + (p + 2), none⟩ (.int .u32 ((rst u0 cc dd : Nat) : Int))) w3.heap.size (k + 2) (ws.set (i + (p + 2)) (rst u0 cc dd)) := RowW.put HRC.out.1 (by have := HMS.out.len; omega)
                  exact ⟨i, _, _, by omega, rfl, HDN.out, rowW_put_other p1 hne, RowW.put (rowW_put_other HRC.out.2.1 (Ne.symm hne)) (by have := HDV.out.qlen; omega), (HRC.out.2.2.setCell (Nat.le_refl _) _).setCell (Nat.le_of_lt R7.out.2.2.2) _⟩
                case measure => simp [intOf]
            · as_aux_lemma =>
                obtain ⟨n3, n4⟩ := n2 hb1
                have HT3 : Hid (T % 4294967296 = (rst u0 cc dd : Nat)) := t2
                have tq : T / 9223372036854775808 = 1 := by rw [t1, hb1]; rfl
                have hGl : G ≤ 4294967296 ∧ 1 ≤ G := by rw [n3]; generalize win us i (p + 3) / val vs = z at *; omega
                have HN4 : Hid (G = win us i (p + 3) / val vs + 1 ∧ win (ws.set (i + (p + 2)) (rst u0 cc dd)) i (p + 3) + val vs = win us i (p + 3) - win us i (p + 3) / val vs * val vs + 4294967296 ^ (p + 3)) := ⟨n3, n4⟩
                have HF : Hid ((ws.set (i + (p + 2)) (rst u0 cc dd)).length = k + 2 ∧ (∀ x ∈ ws.set (i + (p + 2)) (rst u0 cc dd), x < 4294967296) ∧ (∀ j, j < i → (ws.set (i + (p + 2)) (rst u0 cc dd))[j]? = us[j]?) ∧ (∀ j, i + (p + 2) + 1 ≤ j → (ws.set (i + (p + 2)) (rst u0 cc dd))[j]? = us[j]?)) := ⟨f1, f2, f3, f4⟩
                have hX0 : (ws.set (i + (p + 2)) (rst u0 cc dd))[i + (p + 2)]? = some (rst u0 cc dd) := List.getElem?_set_self (by have := HMS.out.len; omega)
                have HX0 : Hid ((ws.set (i + (p + 2)) (rst u0 cc dd))[i + (p + 2)]? = some (rst u0 cc dd)) := hX0
                have HX1 : Hid (rst u0 cc dd < 4294967296) := f2 _ (List.mem_of_getElem? hX0)
                have HP1 : Hid (RowW (wr.setCell ⟨w3.heap.size, i + (p + 2), none⟩ (.int .u32 ((rst u0 cc dd : Nat) : Int))) w3.heap.size (k + 2) (ws.set (i + (p + 2)) (rst u0 cc dd)) ∧ RowW (wr.setCell ⟨w3.heap.size, i + (p + 2), none⟩ (.int .u32 ((rst u0 cc dd : Nat) : Int))) qb M qs ∧ Below w3.heap.size w3 (wr.setCell ⟨w3.heap.size, i + (p + 2), none⟩ (.int .u32 ((rst u0 cc dd : Nat) : Int)))) :=
                  ⟨RowW.put HRC.out.1 (by have := HMS.out.len; omega), rowW_put_other HRC.out.2.1 (by have := R7.out.2.2.2; omega), HRC.out.2.2.setCell (Nat.le_refl _) _⟩
                obtain ⟨g1, hg1⟩ : ∃ g1, G = g1 + 1 := ⟨G - 1, by omega⟩
                have hG1 : IntKind.u64.wrap ((G : Int) - 1) = (g1 : Int) := by rw [IntKind.wrap_u64]; omega
                have HG1 : Hid (G = g1 + 1) := hg1
                have hg1m : (g1 : Int) % 4294967296 = (g1 : Int) := by omega
                clear hg1
                have e9 : T % 4294967296 = (rst u0 cc dd : Nat) := t2
                obtain ⟨x0, hx0⟩ : ∃ x0, rst u0 cc dd = x0 := ⟨_, rfl⟩
                rw [hx0] at HN4 HF HX0 HX1 HP1 e9
                obtain ⟨wsb, hwsb⟩ : ∃ wsb, ws.set (i + (p + 2)) x0 = wsb := ⟨_, rfl⟩
                rw [hwsb] at HN4 HF HX0 HP1
                clear t1 t2 f1 f2 f3 f4 f5 hUq hb1 hbr hVp u0h n1 n2 n3 n4 hqB hX0 HT3 hx0 hwsb
                go_wp2_with fail
                go_loopw [22, 27] (fun vc vi wx => ∃ (ac ii : Nat) (zt : List Nat), ii ≤ p + 2 ∧ vc = .int .u64 (ac : Int) ∧ vi = .int .i64 (ii : Int) ∧ AbAt wsb vs zt (k + 2) i ii ac ∧ RowW wx w3.heap.size (k + 2) zt ∧ RowW wx qb M qs ∧ Below w3.heap.size w3 wx) (fun _ vi _ => p + 2 - (intOf vi).toNat)
                case atStart =>
                  refine ⟨0, 0, wsb, by omega, rfl, rfl, ⟨HF.out.1, HF.out.2.1, fun _ _ => rfl, fun _ _ => rfl, ?_, by omega⟩, HP1.out.1, HP1.out.2.1, HP1.out.2.2⟩
                  rw [win_zero]; simp [val]
                case round =>
                  obtain ⟨ac, ii, zt, hii, rfl, rfl, hab, hru, hrq, hbl⟩ := hrel
                  have HAB : Hid (AbAt wsb vs zt (k + 2) i ii ac) := hab
                  have HRD : Hid (RowW wr w3.heap.size (k + 2) zt ∧ RowW wr qb M qs ∧ Below w3.heap.size w3 wr) := ⟨hru, hrq, hbl⟩
                  have hac := hab.carry
                  clear hab hru hrq hbl
                  by_cases hlt2 : ii < p + 2
                  · as_aux_lemma =>
                      obtain ⟨v, hv⟩ : ∃ v, vs[ii]? = some v := ⟨_, List.getElem?_eq_getElem (by have := HV.out.1; omega)⟩
                      obtain ⟨u, hu⟩ : ∃ u, wsb[i + ii]? = some u := ⟨_, List.getElem?_eq_getElem (by have := HF.out.1; omega)⟩
                      have v1 := HV.out.2.2.2.2.1 v (List.mem_of_getElem? hv)
                      have u1' := HF.out.2.1 u (List.mem_of_getElem? hu)
                      have b1 := cell_below' HRD.out.2.2 (CV.out ii v hv)
                      have b2 : wr.cell? ⟨w3.heap.size, i + ii, none⟩ = some (.int .u32 (u : Int)) := by
                        have := World.rowIs.cell HRD.out.1 (show i + ii < k + 2 by omega)
                        simpa [List.getD, HAB.out.high (i + ii) (by omega), hu] using this
                      have b3 := World.rowIs.frozen HRD.out.1 (i + ii)
                      have HVU : Hid (vs[ii]? = some v ∧ wsb[i + ii]? = some u) := ⟨hv, hu⟩
                      obtain ⟨Y, hY⟩ : ∃ Y, ac + (u + v) = Y := ⟨_, rfl⟩
                      have q2 : IntKind.u64.wrap ((u : Int) + (v : Int)) = (u : Int) + (v : Int) := by rw [IntKind.wrap_u64]; omega
                      have q3 : IntKind.u64.wrap ((ac : Int) + ((u : Int) + (v : Int))) = (Y : Int) := by rw [IntKind.wrap_u64]; omega
                      have HYe : Hid (ac + (u + v) = Y) := hY
                      have e5 : (Y : Int) % 4294967296 = ((Y % 4294967296 : Nat) : Int) := by omega
                      have z1 : (0 : Int) ≤ (ii : Int) + (i : Int) := by omega
                      have z2 : (ii : Int) + (i : Int) < (k : Int) + 2 := by omega
                      have z3 : ((ii : Int) + (i : Int)).toNat = i + ii := by omega
                      have z4 : (0 : Int) ≤ (ii : Int) := by omega
                      have z5 : (ii : Int) < (p : Int) + 1 + 1 := by omega
                      have HE5 : Hid ((Y : Int) % 4294967296 = ((Y % 4294967296 : Nat) : Int)) := e5
                      clear hv hu e5 hY
                      go_wp2
                      go_quiet (fail)
                      have HRE : Hid (RowW (wr.drewN nq) w3.heap.size (k + 2) zt ∧ RowW (wr.drewN nq) qb M qs ∧ Below w3.heap.size w3 (wr.drewN nq)) := ⟨HRD.out.1, HRD.out.2.1, below_drewN HRD.out.2.2 _⟩
                      replace b1 : (wr.drewN nq).cell? ⟨vb, vo + ii, none⟩ = some (.int .u32 (v : Int)) := b1
                      replace b2 : (wr.drewN nq).cell? ⟨w3.heap.size, i + ii, none⟩ = some (.int .u32 (u : Int)) := b2
                      replace b3 : (wr.drewN nq).frozen? ⟨w3.heap.size, i + ii, none⟩ = false := b3
                      clear HRD
                      generalize wr.drewN nq = wq5 at *
                      go_wp2
                      go_roundw
                      case rel =>
                        have hn := ab_next HAB.out (show i + ii < k + 2 by omega) HVU.out.2 HVU.out.1 u1' v1
                        rw [HYe.out] at hn
                        rw [HE5.out]
                        exact ⟨Y / 4294967296, ii + 1, _, by omega, by congr 1, by go_num, hn, RowW.put HRE.out.1 (by have := HAB.out.len; omega), rowW_put_other HRE.out.2.1 (by have := R7.out.2.2.2; omega), HRE.out.2.2.setCell (Nat.le_refl _) _⟩
                      case measure => simp [intOf]; omega
                  · as_aux_lemma =>
                      obtain rfl : ii = p + 2 := by omega
                      have u0h : zt[i + (p + 2)]? = some x0 := by rw [HAB.out.high _ (by omega)]; exact HX0.out
                      have b4 : wr.cell? ⟨w3.heap.size, i + p + 2, none⟩ = some (.int .u32 (x0 : Int)) := by
                        have := World.rowIs.cell HRD.out.1 (show i + (p + 2) < k + 2 by omega)
                        have h2 : wr.cell? ⟨w3.heap.size, i + (p + 2), none⟩ = some (.int .u32 (x0 : Int)) := by simpa [List.getD, u0h] using this
                        exact h2
                      have b5 := World.rowIs.frozen HRD.out.1 (i + p + 2)
                      obtain ⟨qz, b6⟩ : ∃ z, wr.cell? ⟨qb, i, none⟩ = some z := ⟨_, World.rowIs.cell HRD.out.2.1 (show i < M by omega)⟩
                      have b7 := World.rowIs.frozen HRD.out.2.1 i
                      obtain ⟨X', hX'⟩ : ∃ X', (x0 + ac) % 4294967296 = X' := ⟨_, rfl⟩
                      have hx0w := HX1.out
                      have s1 : (ac : Int) % 4294967296 = (ac : Int) := by omega
                      have s2 : IntKind.u32.wrap ((x0 : Int) + (ac : Int)) = (X' : Int) := by rw [IntKind.wrap_u32]; omega
                      have HDN : Hid (Dv (n * 2 ^ s) vs (zt.set (i + (p + 2)) X') (qs.set i g1) (k + 2) M p i) := ab_dv HDV.out hiL (by omega) HV.out.1 HV.out.2.2.2.2.1 HAB.out HX0.out HX1.out hX' HF.out.2.2.1 HF.out.2.2.2 (Nat.succ.inj (HN4.out.1.symm.trans HG1.out)) HN4.out.2
                      have HX2 : Hid ((x0 + ac) % 4294967296 = X') := hX'
                      clear hX' hx0w
                      go_wp2_with fail
                      go_roundw
                      case rel =>
                        have hne : w3.heap.size ≠ qb := by have := R7.out.2.2.2; omega
                        have p1 : RowW (wr.setCell ⟨w3.heap.size, i + (p + 2), none⟩ (.int .u32 (X' : Int))) w3.heap.size (k + 2) (zt.set (i + (p + 2)) X') := RowW.put HRD.out.1 (by have := HAB.out.len; omega)
                        exact ⟨i, _, _, by omega, rfl, HDN.out, rowW_put_other p1 hne, RowW.put (rowW_put_other HRD.out.2.1 (Ne.symm hne)) (by have := HDV.out.qlen; omega), (HRD.out.2.2.setCell (Nat.le_refl _) _).setCell (Nat.le_of_lt R7.out.2.2.2) _⟩
                      case measure => simp [intOf]
end Go.Proofs.YtnppmigncjakeaaGreatDoor
