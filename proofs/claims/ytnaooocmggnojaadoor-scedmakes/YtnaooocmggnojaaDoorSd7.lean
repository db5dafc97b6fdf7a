/-
  sced.step: whose cell is sent at a tick, and what it leaves. Conditions: the rows lie in memory, apart from each other; no more have come than there are.
-/
import Derived.Test.YtnaooocmggnojaaDoorSd6
namespace Go.Proofs.YtnaooocmggnojaaDoor
open Go.RowKit Go.Extern.Stop Go.Stop Go.Extern
variable {m : Nat} {lo : Nat → Nat} {B : Nat → Rb} {n : Nat} {C : Nat → Nat → Int} {K : Nat → Nat} {P T : Nat → Nat → Int} {h : Nat → Int} {g : Nat → Nat}

theorem bst_same {h' : Nat → Int} (k : Nat) (hh : ∀ i, i < k → h i = h' i) : bst P h g k = bst P h' g k := bst_congr k hh (fun _ _ => rfl) (fun _ _ => rfl)

set_option maxRecDepth 20000 in
set_option maxHeartbeats 4000000 in
theorem step_any (w : World) (b off cap now : Nat) (H : RsAt w m lo B n C K P T h g) (hv : Seg w 72 1 (.slice (some ⟨b, off, none⟩) m cap) m (ptrs B m)) (hm : m ≤ 8) (hn : now < n) (hn1 : n ≤ 1000)
    (hh : ∀ i, i < m → 0 ≤ h i ∧ 0 ≤ C i now ∧ h i + C i now ≤ K i) (hK : ∀ i, i < m → K i ≤ 1000) :
    Calls Tryd.prog 25 #[.slice (some ⟨b, off, none⟩) m cap, .int .i64 now] w fun e w' => e = .returned (.int .i64 (bst P (fun i => h i + C i now) g m)) ∧
      StR w w' m lo B n C K P (fun i k => if bst P (fun i => h i + C i now) g m = (i : Int) ∧ k = g i then (now : Int) + 1 else T i k) (fun i => h i + C i now) (fun i => if bst P (fun i => h i + C i now) g m = (i : Int) then g i + 1 else g i) (.slice (some ⟨b, off, none⟩) m cap) := by
  obtain ⟨h', HH'⟩ : ∃ h' : Nat → Int, Hid (∀ i, h' i = h i + C i now) := ⟨fun i => h i + C i now, fun _ => rfl⟩
  have HFE : Hid ((fun i => h i + C i now) = h') := funext fun i => (HH'.out i).symm
  rw [HFE.out]
  have HS0 : Hid (StR w w m lo B n C K P T (hst h C now 0) g (.slice (some ⟨b, off, none⟩) m cap)) := by
    refine ⟨⟨fun i hi => ?_, H.up, H.inn⟩, hv, Ot.refl _ _⟩
    rw [show hst h C now 0 i = h i from rfl]; exact H.row i hi
  have HH : Hid (∀ i, i < m → 0 ≤ h i ∧ 0 ≤ C i now ∧ h i + C i now ≤ K i) := hh
  have HK : Hid (∀ i, i < m → K i ≤ 1000) := hK
  have HE : Hid (∀ k i, i < k → hst h C now k i = h' i) := fun k i hi => by rw [HH'.out]; simp [hst, hi]
  have HEN : Hid (∀ k, hst h C now k k = h k) := fun k => by simp [hst]
  have HX : Hid (∀ k i, i ≠ k → hst h C now (k + 1) i = hst h C now k i) := fun k i hi => by
    unfold hst
    by_cases e : i < k
    · rw [if_pos e, if_pos (by omega)]
    · rw [if_neg e, if_neg (by omega)]
  clear H hv hh hK
  go_enter Tryd.func25, Tryd.ntmps25
  go_wp2
  go_loopw [5, 10] (fun bv i wr => ∃ k : Nat, k ≤ m ∧ i = .int .i64 k ∧ bv = .int .i64 (bst P h' g k) ∧ StR w wr m lo B n C K P T (hst h C now k) g (.slice (some ⟨b, off, none⟩) m cap)) (fun _ i _ => m - (intOf i).toNat)
  case atStart => exact ⟨0, Nat.zero_le _, rfl, rfl, HS0.out⟩
  case round =>
    obtain ⟨k, hk, rfl, rfl, hS⟩ := hrel
    have HS : Hid (StR w wr m lo B n C K P T (hst h C now k) g (.slice (some ⟨b, off, none⟩) m cap)) := hS
    by_cases hlt : k < m
    · obtain ⟨_, _, _, hve, _, _, hbl, hcell⟩ := hS.ptr.some (by omega)
      simp only [Value.slice.injEq, Option.some.injEq, Addr.mk.injEq, and_true, true_and] at hve
      obtain ⟨⟨rfl, rfl⟩, rfl⟩ := hve
      have p0 := hcell k _ (ptrs_at B hlt)
      have HCELL : Hid (∀ j, j < m → wr.cell? ⟨b, off + j, none⟩ = some (.pointer (some ⟨(B j).r, 0, none⟩))) := fun j hj => hcell j _ (ptrs_at B hj)
      have hrow := hS.rs.row k hlt
      rw [HEN.out k] at hrow
      obtain ⟨⟨c0, c1, c2, c3, c4⟩, f1, f2, f3, f4⟩ := cells_of hrow.blk
      have c5 := hrow.come.at hn
      rw [Nat.zero_add] at c5
      have hrl := hrow.lt
      have hcl := hrow.clt
      obtain ⟨q0, q1, q2⟩ := HH.out k hlt
      have q3 := HK.out k hlt
      have e0 : IntKind.i64.wrap (h k + C k now) = h' k := by rw [HH'.out, IntKind.wrap_i64]; omega
      -- behind the store
      have HW : Hid (StR w (wr.setCell ⟨(B k).r, 3, none⟩ (.int .i64 (h' k))) m lo B n C K P T (hst h C now (k + 1)) g (.slice (some ⟨b, off, none⟩) m cap)) := by
        obtain ⟨z1, z2⟩ := here_fin hrow (h' k)
        refine hS.upd z2 hlt (fun q e => Or.inl e) ?_ (fun _ _ _ => rfl) (fun i _ e => HX.out k i e) (fun _ _ _ => rfl)
        rw [HE.out (k + 1) k (by omega)]; exact z1
      clear hrow hS hcell HCELL
      go_wp2
      go_region
      obtain ⟨W1, hW1⟩ : ∃ W1, W1 = (wr.setCell ⟨(B k).r, 3, none⟩ (.int .i64 (h' k))).drew := ⟨_, rfl⟩
      rw [← hW1]
      have HW1 : Hid (StR w W1 m lo B n C K P T (hst h C now (k + 1)) g (.slice (some ⟨b, off, none⟩) m cap)) := by subst hW1; exact HW.out.drew
      clear hW1 HW c0 c1 c2 c3 c4 c5 f1 f2 f3 f4 p0 hrl hcl hbl
      have HCELL : Hid (∀ j, j < m → W1.cell? ⟨b, off + j, none⟩ = some (.pointer (some ⟨(B j).r, 0, none⟩))) := by
        obtain ⟨_, _, _, hve, _, _, hbl, hcell⟩ := HW1.out.ptr.some (by omega)
        simp only [Value.slice.injEq, Option.some.injEq, Addr.mk.injEq, and_true, true_and] at hve
        obtain ⟨⟨rfl, rfl⟩, rfl⟩ := hve
        exact fun j hj => hcell j _ (ptrs_at B hj)
      have HRK : Hid (RwAt W1 (B k).r (B k).cb (B k).pv (B k).tv n (C k) (K k) (P k) (T k) (h' k) (g k)) := by
        have := HW1.out.rs.row k hlt
        rw [HE.out (k + 1) k (by omega)] at this
        exact this
      have HB1 : Hid (bst P h' g (k + 1) = if (waitQ h' g k && (decide (bst P h' g k < 0) || aheadQ P g k (bst P h' g k).toNat)) = true then (k : Int) else bst P h' g k) := rfl
      have HKK : Hid (h' k ≤ K k) := by show _ ≤ _; rw [HH'.out]; exact q2
      clear e0 q0 q1 q2
      by_cases hw : (g k : Int) < h' k
      · have HWQ : Hid (waitQ h' g k = true) := by show _ = _; unfold waitQ; simpa using hw
        rcases bst_range P h' g k with hb | ⟨j, hj, hb, hwj⟩
        · have HB2 : Hid (bst P h' g (k + 1) = k) := by show _ = _; rw [HB1.out, HWQ.out, hb]; simp
          rw [hb]
          clear HB1
          clear hb
          go_wp2_with (go_at_call 30; refine (waits_any _ HRK.out).mono ?_; rintro e w2 ⟨rfl, d2, rfl⟩)
          go_roundw
          case rel => exact ⟨k + 1, by omega, by go_num, by rw [HB2.out], HW1.out.drewN _⟩
          case measure => simp [intOf]; omega
        · have HRJ : Hid (RwAt W1 (B j).r (B j).cb (B j).pv (B j).tv n (C j) (K j) (P j) (T j) (h' j) (g j)) := by
            have := HW1.out.rs.row j (by omega)
            rw [HE.out (k + 1) j (by omega)] at this
            exact this
          have HGJ : Hid (g j < K j) := by
            show _ < _
            unfold waitQ at hwj
            simp only [decide_eq_true_eq] at hwj
            have := (HH.out j (by omega)).2.2
            rw [HH'.out] at hwj
            omega
          have HGK : Hid (g k < K k) := by show _ < _; have := HKK.out; omega
          have p1 := HCELL.out j (by omega)
          have hbl := World.block_lt_of_cell? W1 _ p1
          have HAE : Hid (aheadQ P g k j = aheadB (P k (g k)) (P j (g j))) := rfl
          rw [hb]
          by_cases ha : aheadB (P k (g k)) (P j (g j)) = true
          · have HB2 : Hid (bst P h' g (k + 1) = k) := by show _ = _; rw [HB1.out, HWQ.out, hb, Int.toNat_natCast, HAE.out, ha]; simp
            have HAH : Hid (aheadB (P k (g k)) (P j (g j)) = true) := ha
            clear ha HB1 hb hwj
            go_wp2_with (first | (go_at_call 30; refine (waits_any _ HRK.out).mono ?_; rintro e w2 ⟨rfl, d2, rfl⟩) | (go_at_call 31; refine (ahead_any (W1.drewN d2) (HRK.out.below ⟨rfl, rfl, rfl, Nat.le_refl _, fun _ _ => rfl⟩) (HRJ.out.below ⟨rfl, rfl, rfl, Nat.le_refl _, fun _ _ => rfl⟩) HGK.out HGJ.out).mono ?_; rw [HAH.out]; rintro e w3 ⟨rfl, d3, rfl⟩))
            go_roundw
            case rel => exact ⟨k + 1, by omega, by go_num, by rw [HB2.out], HW1.out.drewN _⟩
            case measure => simp [intOf]; omega
          · have HB2 : Hid (bst P h' g (k + 1) = j) := by show _ = _; rw [HB1.out, HWQ.out, hb, Int.toNat_natCast, HAE.out, if_neg]; simp [ha]
            have HAH : Hid (aheadB (P k (g k)) (P j (g j)) = false) := by show _ = _; simpa using ha
            clear ha HB1 hb hwj
            go_wp2_with (first | (go_at_call 30; refine (waits_any _ HRK.out).mono ?_; rintro e w2 ⟨rfl, d2, rfl⟩) | (go_at_call 31; refine (ahead_any (W1.drewN d2) (HRK.out.below ⟨rfl, rfl, rfl, Nat.le_refl _, fun _ _ => rfl⟩) (HRJ.out.below ⟨rfl, rfl, rfl, Nat.le_refl _, fun _ _ => rfl⟩) HGK.out HGJ.out).mono ?_; rw [HAH.out]; rintro e w3 ⟨rfl, d3, rfl⟩))
            go_roundw
            case rel => exact ⟨k + 1, by omega, by go_num, by rw [HB2.out], HW1.out.drewN _⟩
            case measure => simp [intOf]; omega
      · have HB2 : Hid (bst P h' g (k + 1) = bst P h' g k) := by
          show _ = _
          rw [HB1.out, show waitQ h' g k = false by unfold waitQ; simpa using hw]
          simp
        clear HB1
        obtain ⟨bv, HBV⟩ : ∃ bv, Hid (bst P h' g k = bv) := ⟨_, rfl⟩
        rw [HBV.out]
        go_wp2_with (go_at_call 30; refine (waits_any _ HRK.out).mono ?_; rintro e w2 ⟨rfl, d2, rfl⟩)
        go_roundw
        case rel => exact ⟨k + 1, by omega, by go_num, by rw [HB2.out, HBV.out], HW1.out.drewN _⟩
        case measure => simp [intOf]; omega
    · obtain rfl : k = m := by omega
      have HSF : Hid (StR w wr k lo B n C K P T h' g (.slice (some ⟨b, off, none⟩) k cap)) := by
        refine ⟨⟨fun i hi => ?_, hS.rs.up, hS.rs.inn⟩, hS.ptr, hS.ot⟩
        have := hS.rs.row i hi
        rw [HE.out k i hi] at this
        exact this
      rcases bst_range P h' g k with hb | ⟨j, hj, hb, hwj⟩
      · have HBB : Hid (bst P h' g k = -1) := hb
        clear hS
        rw [hb]
        clear hb
        go_wp2
        go_ret
        refine ⟨by rw [HBB.out]; rfl, ?_⟩
        rw [HBB.out]
        have e1 : (fun (i k : Nat) => if (-1 : Int) = (i : Int) ∧ k = g i then (now : Int) + 1 else T i k) = T := by
          funext i q
          rw [if_neg (by omega)]
        have e2 : (fun i : Nat => if (-1 : Int) = (i : Int) then g i + 1 else g i) = g := by
          funext i
          rw [if_neg (by omega)]
        rw [e1, e2]
        exact HSF.out
      · have HBB : Hid (bst P h' g k = j) := hb
        have HGJ : Hid (g j < K j) := by
          show _ < _
          unfold waitQ at hwj
          simp only [decide_eq_true_eq] at hwj
          have := (HH.out j (by omega)).2.2
          rw [HH'.out] at hwj
          omega
        obtain ⟨_, _, _, hve, _, _, hbl, hcell⟩ := hS.ptr.some (by omega)
        simp only [Value.slice.injEq, Option.some.injEq, Addr.mk.injEq, and_true, true_and] at hve
        obtain ⟨⟨rfl, rfl⟩, rfl⟩ := hve
        have p1 := hcell j _ (ptrs_at B hj)
        clear hS hcell
        rw [hb]
        clear hb hwj
        go_wp2_with fail
        refine (send_any wr now (T' := fun q => if q = g j then (now : Int) + 1 else T j q) (HSF.out.rs.row j hj) HGJ.out (HK.out j hj) (by omega) (fun _ _ => rfl)).mono ?_
        rintro e w2 ⟨rfl, hr2, ho2⟩
        go_wp2
        go_ret
        refine ⟨by rw [HBB.out]; rfl, ?_⟩
        rw [HBB.out]
        refine HSF.out.upd ho2 hj (fun q e => ?_) ?_ (fun i _ e => ?_) (fun _ _ _ => rfl) (fun i _ e => ?_)
        · rcases e with e | e
          · exact Or.inl e
          · exact Or.inr (Or.inr (Or.inr e))
        · simpa using hr2
        · funext q
          rw [if_neg (by omega)]
        · rw [if_neg (by omega)]
end Go.Proofs.YtnaooocmggnojaaDoor
