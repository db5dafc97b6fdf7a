/-
  millraceref.Serve: the error, or in new memory how much has gone by each tick (LwServe's first part alone). Conditions: the numbers lie in memory.
-/
import Derived.Test.YtnaooocmggnojaaDoorLwErr
namespace Go.Proofs.YtnaooocmggnojaaDoor
open Go.RowKit Go.Extern.Stop Go.Stop Go.Extern

/-- The best so far; -1: none. -/
def best (g : Nat → Int) (j : Nat) : Int := if j = 0 then -1 else pm g j
theorem best_zero (g : Nat → Int) : best g 0 = -1 := rfl
theorem best_pos (g : Nat → Int) {j : Nat} (h : 0 < j) : best g j = pm g j := if_neg (by omega)
theorem best_one (g : Nat → Int) : best g 1 = g 0 := by rw [best_pos g (by omega)]; simp [pm]
theorem best_next (g : Nat → Int) {j : Nat} (h : 0 < j) : best g (j + 1) = min (best g j) (g j) := by rw [best_pos g (by omega), best_pos g h]; rfl
theorem best_low {g : Nat → Int} {j : Nat} (h : 0 < j) (hg : ∀ i, i < j → 0 ≤ g i) : 0 ≤ best g j := by
  rw [best_pos g h]
  obtain ⟨i, hi, e⟩ := pm_ex g j h
  rw [e]; exact hg i hi

theorem rcheck_ok (y : Option Addr) (cy m : Nat) (g : Nat → Int) (w : World) (hy : Row w y m g) (h : okC m g) : Calls Tryd.prog 16 #[.slice y m cy] w fun e w' => e = .returned (.int .i64 0) ∧ w' = w := by
  have := rcheck_any y cy m g w (by have := h.len; unfold maxLen; omega) hy
  rw [curveE_zero.2 h] at this
  exact this
set_option maxRecDepth 20000 in
set_option maxHeartbeats 4000000 in
theorem rserve_any (x y : Option Addr) (cx cy n m : Nat) (c g : Nat → Int) (w : World) (hx : Row w x n c) (hy : Row w y m g) (h : okC m g) (hle : n ≤ m) :
    Calls Tryd.prog 22 #[.slice x n cx, .slice y m cy] w fun e w' => ((fst0 (fun i => amtE (c i)) n = 0 ∧ ∃ z cz, e = .returned (.tuple #[.slice z n cz, .int .i64 0]) ∧ Row w' z n (conv (tot c) g) ∧ ∀ b, Value.ownBlock (.slice z n cz) = some b → w.heap.size ≤ b) ∨ (fst0 (fun i => amtE (c i)) n ≠ 0 ∧ e = .returned (.tuple #[.slice none 0 0, .int .i64 2]))) ∧ Below w.heap.size w w' := by
  obtain ⟨i0, hi, hz0, hz1, hz2⟩ := info_parts infoInt
  have HC : Hid (Calls Tryd.prog 16 #[.slice y m cy] w fun e w' => e = .returned (.int .i64 0) ∧ w' = w) := rcheck_ok y cy m g w hy h
  have HX : Hid (Row w x n c) := hx
  have HY : Hid (Row w y m g) := hy
  have H : Hid (okC m g) := h
  have b1 := h.len
  have hnl : ¬ m < n := by omega
  obtain ⟨by', oy, rfl⟩ := hy.some h.pos
  clear hy h hx
  go_enter Tryd.func22, Tryd.ntmps22
  go_wp2_with fail
  refine HC.out.mono ?_
  rintro e w' ⟨rfl, rfl⟩
  go_wp2
  go_loop [27] (fun i => ∃ k : Nat, k ≤ n ∧ i = .int .i64 k ∧ Hid (∀ i, i < k → okAmt (c i))) (fun i => n - (intOf i).toNat)
  case atStart => exact ⟨0, Nat.zero_le _, rfl, fun i hi => by omega⟩
  case round =>
    obtain ⟨k, hk, rfl, HA⟩ := hrel
    by_cases hlt : k < n
    · obtain ⟨bx, ox, rfl⟩ := HX.out.some (by omega)
      have c0 := HX.out.at hlt
      by_cases hok : okAmt (c k)
      · have HA' : Hid (∀ i, i < k + 1 → okAmt (c i)) := fun i hi => by
          by_cases e : i = k
          · subst e; exact hok
          · exact HA.out i (by omega)
        have HW : Hid (Calls Tryd.prog 15 #[.int .i64 (c k), .int .i64 0, .int .i64 1000000] w' fun e w'' => e = .returned (.bool true) ∧ w'' = w') := within_yes _ _ _ _ hok.1 hok.2
        clear hok
        go_wp2_with fail
        refine HW.out.mono ?_
        rintro e w'' ⟨rfl, rfl⟩
        go_wp2
        go_round
        case rel => exact ⟨k + 1, by omega, by go_num, HA'⟩
        case measure => simp [intOf]; omega
      · have HE : Hid (fst0 (fun i => amtE (c i)) n ≠ 0) := by
          show fst0 (fun i => amtE (c i)) n ≠ 0
          intro h
          exact hok (amtE_zero.1 ((fst0_zero n).1 h k hlt))
        have HW : Hid (Calls Tryd.prog 15 #[.int .i64 (c k), .int .i64 0, .int .i64 1000000] w' fun e w'' => e = .returned (.bool false) ∧ w'' = w') := within_no _ _ _ _ (by unfold okAmt at hok; omega)
        clear hok
        go_wp2_with fail
        refine HW.out.mono ?_
        rintro e w'' ⟨rfl, rfl⟩
        go_wp2
        go_ret2
        exact ⟨Or.inr ⟨HE.out, rfl⟩, Below.refl _ _⟩
    · obtain rfl : k = n := by omega
      have HZ : Hid (fst0 (fun i => amtE (c i)) k = 0) := (fst0_zero k).2 fun i hi => amtE_zero.2 (HA.out i hi)
      have HTB : Hid (∀ t, t ≤ k → 0 ≤ tot c t ∧ tot c t ≤ 1000000000) := fun t ht => by
        have := tot_bd (c := c) (n := k) (B := 1000000) (fun i hi => HA.out i hi) t ht
        omega
      clear HA
      go_wp2
      go_loopw [9, 37] (fun o i wr => ∃ t : Nat, t ≤ k ∧ i = .int .i64 t ∧ wr.ownsRow w'.heap.size 3 1 o t (vals (conv (tot c) g) t) ∧ Below w'.heap.size w' wr) (fun _ i _ => k - (intOf i).toNat)
      case atStart => exact ⟨0, Nat.zero_le _, rfl, World.ownsRow_nil w' _ _ _, Below.refl _ _⟩
      case round =>
        obtain ⟨t, ht, rfl, hown, hbel⟩ := hrel
        have HO : Hid (wr.ownsRow w'.heap.size 3 1 u9 t (vals (conv (tot c) g) t)) := hown
        have HB : Hid (Below w'.heap.size w' wr) := hbel
        have RX : Hid (Row wr x k c) := HX.out.below HB.out
        have RY : Hid (Row wr (some ⟨by', oy, none⟩) m g) := HY.out.below HB.out
        clear hown hbel
        by_cases htk : t < k
        · obtain ⟨bx, ox, rfl⟩ := RX.out.some (by omega)
          go_wp2
          go_loop [11, 12, 13] (fun v a i => ∃ j : Nat, j ≤ t + 1 ∧ i = .int .i64 j ∧ v = .int .i64 (best (fun s => tot c s + g (t - s)) j) ∧ a = .int .i64 (tot c j)) (fun _ _ i => t + 1 - (intOf i).toNat)
          case atStart => exact ⟨0, Nat.zero_le _, rfl, rfl, rfl⟩
          case round =>
            obtain ⟨j, hj, rfl, rfl, rfl⟩ := hrel
            by_cases hjt : j < t + 1
            · have c0 := RX.out.at (i := j) (by omega)
              have c1 := RY.out.at (i := t - j) (by omega)
              have d0 := HTB.out j (by omega)
              have d1 := HTB.out (j + 1) (by omega)
              have d2 := H.out.low (t - j) (by omega)
              have d3 := H.out.top (t - j) (by omega)
              have e0 : IntKind.i64.wrap (tot c j + g (t - j)) = tot c j + g (t - j) := by rw [IntKind.wrap_i64]; omega
              have e1 : ((t : Int) - j).toNat = t - j := by omega
              have e2 : IntKind.i64.wrap (tot c j + c j) = tot c (j + 1) := by rw [IntKind.wrap_i64]; simp only [tot] at d1 ⊢; omega
              have hti : (j : Int) ≤ t := by omega
              by_cases hj0 : j = 0
              · subst hj0
                have HP : Hid (best (fun s => tot c s + g (t - s)) (0 + 1) = tot c 0 + g t) := best_one _
                rw [best_zero]
                rw [Nat.add_zero] at c0
                rw [Nat.sub_zero] at c1 d2 d3 e0
                clear e1
                generalize tot c 0 = u at *
                generalize g t = v at *
                obtain ⟨u2, hu2⟩ : ∃ u2, tot c (0 + 1) = u2 := ⟨_, rfl⟩
                have HU2 : Hid (tot c (0 + 1) = u2) := hu2
                rw [hu2] at e2 d1
                clear hu2
                generalize c 0 = z at *
                go_wp2
                go_round
                case rel => exact ⟨0 + 1, by omega, by go_num, by rw [HP.out], by rw [HU2.out]⟩
                case measure => simp [intOf]
              · have HP : Hid (best (fun s => tot c s + g (t - s)) (j + 1) = min (best (fun s => tot c s + g (t - s)) j) (tot c j + g (t - j))) := best_next _ (by omega)
                have hlow : 0 ≤ best (fun s => tot c s + g (t - s)) j := best_low (by omega) fun i hi => by
                  have := (HTB.out i (by omega)).1
                  have := H.out.low (t - i) (by omega)
                  omega
                generalize best (fun s => tot c s + g (t - s)) j = r at *
                generalize tot c j = u at *
                generalize g (t - j) = v at *
                obtain ⟨u2, hu2⟩ : ∃ u2, tot c (j + 1) = u2 := ⟨_, rfl⟩
                have HU2 : Hid (tot c (j + 1) = u2) := hu2
                rw [hu2] at e2 d1
                clear hu2
                generalize c j = z at *
                by_cases hm : u + v < r
                · have HM : Hid (u + v < r) := hm
                  go_wp2
                  go_round
                  case rel => exact ⟨j + 1, by omega, by go_num, by rw [HP.out]; have := HM.out; congr 1; omega, by rw [HU2.out]⟩
                  case measure => simp [intOf]; omega
                · have HM : Hid (r ≤ u + v) := Int.not_lt.1 hm
                  go_wp2
                  go_round
                  case rel => exact ⟨j + 1, by omega, by go_num, by rw [HP.out]; have := HM.out; congr 1; omega, by rw [HU2.out]⟩
                  case measure => simp [intOf]; omega
            · obtain rfl : j = t + 1 := by omega
              have e : best (fun s => tot c s + g (t - s)) (t + 1) = conv (tot c) g t := best_pos _ (by omega)
              rw [e]
              clear e
              have hjn : ¬ ((t + 1 : Nat) : Int) ≤ t := by omega
              go_wp2_with (at_builtin; refine wpList_append_own _ rfl _ _ 36 rfl w'.heap.size 3 i0 (.int .i64 0) 1 8 Tryd.underlying36 hi hz0 hz1 hz2 rfl (by decide) _ _ _ rfl (HO.out.alloc _) ⟨wr.heap.size, 0, none⟩ 1 1 [.int .i64 (conv (tot c) g t)] rfl rfl (cell_new1 _ _ _) (by simp [Value.oneCell']) (by unfold maxLen; omega) (by omega) (by simp; have := HB.out.size; omega) ?_; intro v' w4 hown4 hgrow4 _)
              go_roundw
              case rel =>
                have hb4 : Below w'.heap.size w' w4 := (HB.out.alloc HB.out.size _).grown hgrow4 (by simp; have := HB.out.size; omega) (fun i e => (HO.out.lt i e).1)
                exact ⟨t + 1, by omega, by go_num, by rw [vals_succ]; exact hown4, hb4⟩
              case measure => simp [intOf]; omega
        · obtain rfl : t = k := by omega
          obtain ⟨z, cz, rfl, _, _, hrow⟩ := row_of_owns HO.out
          have HR : Hid (Row wr z t (conv (tot c) g)) := hrow
          clear hrow
          have HOB : Hid (∀ b, Value.ownBlock (.slice z t cz) = some b → w'.heap.size ≤ b) := fun b e => (HO.out.lt b e).1
          go_wp2
          go_ret2
          exact ⟨Or.inl ⟨HZ.out, z, cz, rfl, HR.out, HOB.out⟩, HB.out⟩
theorem rserve_all (x y : Option Addr) (cx cy n m : Nat) (c g : Nat → Int) (w : World) (hx : Row w x n c) (hy : Row w y m g) (h : okC m g) (hle : n ≤ m) (ha : ∀ i, i < n → okAmt (c i)) :
    Calls Tryd.prog 22 #[.slice x n cx, .slice y m cy] w fun e w' => ∃ z cz, e = .returned (.tuple #[.slice z n cz, .int .i64 0]) ∧ Row w' z n (conv (tot c) g) ∧ (∀ b, Value.ownBlock (.slice z n cz) = some b → w.heap.size ≤ b) ∧ Below w.heap.size w w' := by
  refine (rserve_any x y cx cy n m c g w hx hy h hle).mono ?_
  rintro e w' ⟨⟨_, z, cz, rfl, hr, hs⟩ | ⟨hz, _⟩, hb⟩
  · exact ⟨z, cz, rfl, hr, hs, hb⟩
  · exact absurd ((fst0_zero n).2 fun i hi => amtE_zero.2 (ha i hi)) hz
end Go.Proofs.YtnaooocmggnojaaDoor
