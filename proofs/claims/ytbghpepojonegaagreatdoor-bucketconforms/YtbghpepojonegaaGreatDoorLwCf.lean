/-
  millracelaw.BucketConforms is true at every bucket and every packets; nothing that was there before is otherwise. Conditions: errors.errorType and millraceref.Fine hold what the program's text lays; the packets lie in memory.
-/
import Derived.Test.YtbghpepojonegaaGreatDoorLwWr
import Derived.Test.YtbghpepojonegaaGreatDoorCfW
namespace Go.Proofs.YtbghpepojonegaaGreatDoor
open Go.RowKit Go.Extern.Stop Go.Stop Go.Extern

set_option maxHeartbeats 1000000 in
theorem bconf_many (n t R : Int) (x : Option Addr) (len cap : Nat) (w : World) (hm : len ≤ maxLen) (h : (40 < len ∧ len ≤ 100) ∨ 150 < len) :
    Calls Tryz.prog 3 #[.agg #[.int .i64 n, .int .i64 t, .int .i64 R], .slice x len cap] w fun e w' => e = .returned (.bool true) ∧ Below w.heap.size w w' := by
  have HM : Hid (len ≤ maxLen) := hm
  have HD : Hid (decide ((40 < len ∧ len ≤ 100) ∨ 150 < len) = true) := by simpa [Hid] using h
  clear h hm
  go_enter Tryz.func3, Tryz.ntmps3
  go_wp2_with fail
  refine (many_any x len cap _ HM.out).mono ?_
  rw [HD.out]
  rintro e w1 ⟨rfl, rfl⟩
  go_wp2
  go_ret
  exact ⟨rfl, (Below.refl _ _).alloc (Nat.le_refl _) _⟩

set_option maxHeartbeats 2000000 in
theorem bconf_nob (n t R : Int) (x : Option Addr) (len cap : Nat) (w : World) (hm : len ≤ maxLen) (h : ¬ ((40 < len ∧ len ≤ 100) ∨ 150 < len)) (hb : ¬ okB n t R) (hL : Laid w) :
    Calls Tryz.prog 3 #[.agg #[.int .i64 n, .int .i64 t, .int .i64 R], .slice x len cap] w fun e w' => e = .returned (.bool true) ∧ Below w.heap.size w w' := by
  have HM : Hid (len ≤ maxLen) := hm
  have HD : Hid (decide ((40 < len ∧ len ≤ 100) ∨ 150 < len) = false) := by simpa [Hid] using h
  have H : Hid (¬ okB n t R) := hb
  have HL : Hid (Laid w) := hL
  have HB0 : Hid (Below w.heap.size w (w.alloc (.cells #[.int .i64 n, .int .i64 t, .int .i64 R] 25))) := (Below.refl _ _).alloc (Nat.le_refl _) _
  have HC0 : Hid ((w.alloc (.cells #[.int .i64 n, .int .i64 t, .int .i64 R] 25)).heap[w.heap.size]? = some (.cells #[.int .i64 n, .int .i64 t, .int .i64 R] 25 (0, 0))) := heap_alloc_new _ _
  clear h hm hb hL
  go_enter Tryz.func3, Tryz.ntmps3
  go_wp2_with fail
  refine (many_any x len cap _ HM.out).mono ?_
  rw [HD.out]
  rintro e w1 ⟨rfl, rfl⟩
  go_wp2_with fail
  refine (wrong_nob n t R _ _ H.out).mono ?_
  rintro e w1 ⟨rfl, hb1⟩
  have HB1 : Hid (Below w.heap.size w w1) := HB0.out.trans (hb1.mono HB0.out.size)
  have hc1 : w1.heap[w.heap.size]? = some (.cells #[.int .i64 n, .int .i64 t, .int .i64 R] 25 (0, 0)) := (hb1.block _ (by simp)).trans HC0.out
  have g0 : (w1.alloc (.cells #[.int .i64 2, .int .i64 (-1)] 30)).cell? ⟨w.heap.size, 0, none⟩ = some (.int .i64 n) := cell_kept _ (by simp [World.cell?, hc1])
  have g1 : (w1.alloc (.cells #[.int .i64 2, .int .i64 (-1)] 30)).cell? ⟨w.heap.size, 1, none⟩ = some (.int .i64 t) := cell_kept _ (by simp [World.cell?, hc1])
  have g2 : (w1.alloc (.cells #[.int .i64 2, .int .i64 (-1)] 30)).cell? ⟨w.heap.size, 2, none⟩ = some (.int .i64 R) := cell_kept _ (by simp [World.cell?, hc1])
  clear hb1 hc1
  go_wp2_with fail
  refine (conform_nob n t R _ _ H.out).mono ?_
  rintro e w2 ⟨rfl, hb2⟩
  have hc2 : w2.cell? ⟨w1.heap.size, 0, none⟩ = some (.int .i64 2) := by rw [hb2.cell (by simp)]; simp [go_sem]
  have hc3 : w2.cell? ⟨w1.heap.size, 1, none⟩ = some (.int .i64 (-1)) := by rw [hb2.cell (by simp)]; simp [go_sem]
  have hA1 : Below w.heap.size w (w1.alloc (.cells #[.int .i64 2, .int .i64 (-1)] 30)) := HB1.out.trans ((Below.refl _ _).alloc HB1.out.size _)
  have HB2 : Hid (Below w.heap.size w w2) := hA1.trans (hb2.mono hA1.size)
  clear hb2 hA1
  go_wp2_with fail
  refine (at_true (E := 2) (P := -1) _ (Or.inr (Or.inl ⟨rfl, by decide, rfl⟩)) (HL.out.below HB2.out)).mono ?_
  rintro e w3 ⟨rfl, hb3⟩
  have HB3 : Hid (Below w.heap.size w w3) := HB2.out.trans (hb3.mono HB2.out.size)
  clear hb3
  go_wp2_with fail
  refine (sameB_any none none 0 0 0 (fun _ => false) _ (Nat.zero_le _) (RowBO.nil _ _ _) (RowBO.nil _ _ _)).mono ?_
  rintro e w4 ⟨rfl, q, rfl⟩
  go_wp2
  go_ret
  exact ⟨rfl, below_drewN HB3.out _⟩

theorem bls_row {w : World} {v : Value} {n t R : Int} {xs : List It} {m : Nat} (h : Bls w v (bokL n t R xs m)) : ∃ y cap, v = .slice y m cap ∧ RowBO w y m (bok n t R xs) := by
  rcases h with ⟨rfl, hl⟩ | ⟨g, cap, cur, rfl, hg, _, _, _, hc, _⟩
  · have h0 := congrArg List.length hl
    simp [bokL] at h0
    subst h0
    exact ⟨none, 0, rfl, RowBO.nil _ _ _⟩
  · refine ⟨some ⟨g, 0, none⟩, cap, by simp [bokL], fun j hj => ⟨g, rfl, ?_⟩⟩
    have := hc j (.bool (bok n t R xs j)) (by simp [bokL, hj])
    simp [World.cell?, hg, this]

set_option maxHeartbeats 2000000 in
theorem bconf_nol (n t R : Int) (x : Option Addr) (cap : Nat) (xs : List It) (w : World) (hm : xs.length ≤ maxLen) (h : ¬ ((40 < xs.length ∧ xs.length ≤ 100) ∨ 150 < xs.length)) (hb : okB n t R) (hl : ¬ okL xs) (hL : Laid w) (hF : FineLaid w) (hI : ItemsAt w x xs) :
    Calls Tryz.prog 3 #[.agg #[.int .i64 n, .int .i64 t, .int .i64 R], .slice x xs.length cap] w fun e w' => e = .returned (.bool true) ∧ Below w.heap.size w w' := by
  have HM : Hid (xs.length ≤ maxLen) := hm
  have HD : Hid (decide ((40 < xs.length ∧ xs.length ≤ 100) ∨ 150 < xs.length) = false) := by simpa [Hid] using h
  have H : Hid (okB n t R) := hb
  have HO : Hid (¬ okL xs) := hl
  have HL : Hid (Laid w) := hL
  have HF : Hid (FineLaid w) := hF
  have HI : Hid (ItemsAt w x xs) := hI
  have HB0 : Hid (Below w.heap.size w (w.alloc (.cells #[.int .i64 n, .int .i64 t, .int .i64 R] 25))) := (Below.refl _ _).alloc (Nat.le_refl _) _
  have HC0 : Hid ((w.alloc (.cells #[.int .i64 n, .int .i64 t, .int .i64 R] 25)).heap[w.heap.size]? = some (.cells #[.int .i64 n, .int .i64 t, .int .i64 R] 25 (0, 0))) := heap_alloc_new _ _
  obtain ⟨E, P, hEE⟩ : ∃ E P, listE xs = (E, P) := ⟨_, _, rfl⟩
  have HEE : Hid (listE xs = (E, P)) := hEE
  have hE0 : E ≠ 0 := fun h0 => hl (by unfold okL; rw [hEE]; exact h0)
  clear hEE
  clear h hm hb hl hL hF hI
  obtain ⟨len, hlen⟩ : ∃ len, xs.length = len := ⟨_, rfl⟩
  have HN : Hid (xs.length = len) := hlen
  rw [hlen]
  clear hlen
  go_enter Tryz.func3, Tryz.ntmps3
  go_wp2_with fail
  refine (many_any x len cap _ (HN.out ▸ HM.out)).mono ?_
  rw [← HN.out, HD.out]
  rintro e w1 ⟨rfl, rfl⟩
  rw [HN.out]
  go_wp2_with fail
  rw [← HN.out]
  refine (wrong_list n t R x cap xs _ H.out (HF.out.below HB0.out) (HI.out.below HB0.out) HM.out).mono ?_
  rw [HEE.out]
  rintro e w1 ⟨rfl, hb1⟩
  rw [HN.out]
  have HB1 : Hid (Below w.heap.size w w1) := HB0.out.trans (hb1.mono HB0.out.size)
  have HA1 : Hid (Below w1.heap.size w1 (w1.alloc (.cells #[.int .i64 E, .int .i64 P] 30))) := (Below.refl _ _).alloc (Nat.le_refl _) _
  have hc1 : w1.heap[w.heap.size]? = some (.cells #[.int .i64 n, .int .i64 t, .int .i64 R] 25 (0, 0)) := (hb1.block _ (by simp)).trans HC0.out
  have g0 : (w1.alloc (.cells #[.int .i64 E, .int .i64 P] 30)).cell? ⟨w.heap.size, 0, none⟩ = some (.int .i64 n) := cell_kept _ (by simp [World.cell?, hc1])
  have g1 : (w1.alloc (.cells #[.int .i64 E, .int .i64 P] 30)).cell? ⟨w.heap.size, 1, none⟩ = some (.int .i64 t) := cell_kept _ (by simp [World.cell?, hc1])
  have g2 : (w1.alloc (.cells #[.int .i64 E, .int .i64 P] 30)).cell? ⟨w.heap.size, 2, none⟩ = some (.int .i64 R) := cell_kept _ (by simp [World.cell?, hc1])
  clear hb1 hc1
  go_wp2_with fail
  rw [← HN.out]
  refine (conform_nol n t R x cap xs _ H.out HO.out (HL.out.below (HB1.out.trans (HA1.out.mono HB1.out.size))) (HI.out.below (HB1.out.trans (HA1.out.mono HB1.out.size))) HM.out).mono ?_
  rw [HEE.out]
  rintro e w2 ⟨t', u', rfl, he2, hb2⟩
  rw [HN.out]
  have HE2 : Hid (ErrIs w2 (.iface t' u') E P) := he2
  have hc2 : w2.cell? ⟨w1.heap.size, 0, none⟩ = some (.int .i64 E) := by rw [hb2.cell (by simp)]; simp [go_sem]
  have hc3 : w2.cell? ⟨w1.heap.size, 1, none⟩ = some (.int .i64 P) := by rw [hb2.cell (by simp)]; simp [go_sem]
  have HB2 : Hid (Below w.heap.size w w2) := (HB1.out.trans (HA1.out.mono HB1.out.size)).trans (hb2.mono (HB1.out.trans (HA1.out.mono HB1.out.size)).size)
  clear hb2 he2
  go_wp2_with fail
  refine (at_true _ HE2.out (HL.out.below HB2.out)).mono ?_
  rintro e w3 ⟨rfl, hb3⟩
  have HB3 : Hid (Below w.heap.size w w3) := HB2.out.trans (hb3.mono HB2.out.size)
  clear hb3
  go_wp2_with fail
  refine (sameB_any none none 0 0 0 (fun _ => false) _ (Nat.zero_le _) (RowBO.nil _ _ _) (RowBO.nil _ _ _)).mono ?_
  rintro e w4 ⟨rfl, q, rfl⟩
  go_wp2
  go_ret
  exact ⟨rfl, below_drewN HB3.out _⟩

set_option maxHeartbeats 2000000 in
theorem bconf_yes (n t R : Int) (x : Option Addr) (cap : Nat) (xs : List It) (w : World) (hm : xs.length ≤ maxLen) (h : ¬ ((40 < xs.length ∧ xs.length ≤ 100) ∨ 150 < xs.length)) (hb : okB n t R) (hl : okL xs) (hL : Laid w) (hF : FineLaid w) (hI : ItemsAt w x xs) :
    Calls Tryz.prog 3 #[.agg #[.int .i64 n, .int .i64 t, .int .i64 R], .slice x xs.length cap] w fun e w' => e = .returned (.bool true) ∧ Below w.heap.size w w' := by
  have HM : Hid (xs.length ≤ maxLen) := hm
  have HD : Hid (decide ((40 < xs.length ∧ xs.length ≤ 100) ∨ 150 < xs.length) = false) := by simpa [Hid] using h
  have H : Hid (okB n t R) := hb
  have HO : Hid (okL xs) := hl
  have HL : Hid (Laid w) := hL
  have HF : Hid (FineLaid w) := hF
  have HI : Hid (ItemsAt w x xs) := hI
  have HB0 : Hid (Below w.heap.size w (w.alloc (.cells #[.int .i64 n, .int .i64 t, .int .i64 R] 25))) := (Below.refl _ _).alloc (Nat.le_refl _) _
  have HC0 : Hid ((w.alloc (.cells #[.int .i64 n, .int .i64 t, .int .i64 R] 25)).heap[w.heap.size]? = some (.cells #[.int .i64 n, .int .i64 t, .int .i64 R] 25 (0, 0))) := heap_alloc_new _ _
  have HEE : Hid (listE xs = (0, -1)) := okL_at hl
  clear h hm hb hl hL hF hI
  obtain ⟨len, hlen⟩ : ∃ len, xs.length = len := ⟨_, rfl⟩
  have HN : Hid (xs.length = len) := hlen
  rw [hlen]
  clear hlen
  go_enter Tryz.func3, Tryz.ntmps3
  go_wp2_with fail
  refine (many_any x len cap _ (HN.out ▸ HM.out)).mono ?_
  rw [← HN.out, HD.out]
  rintro e w1 ⟨rfl, rfl⟩
  rw [HN.out]
  go_wp2_with fail
  rw [← HN.out]
  refine (wrong_list n t R x cap xs _ H.out (HF.out.below HB0.out) (HI.out.below HB0.out) HM.out).mono ?_
  rw [HEE.out]
  rintro e w1 ⟨rfl, hb1⟩
  rw [HN.out]
  have HB1 : Hid (Below w.heap.size w w1) := HB0.out.trans (hb1.mono HB0.out.size)
  have HA1 : Hid (Below w1.heap.size w1 (w1.alloc (.cells #[.int .i64 0, .int .i64 (-1)] 30))) := (Below.refl _ _).alloc (Nat.le_refl _) _
  have hc1 : w1.heap[w.heap.size]? = some (.cells #[.int .i64 n, .int .i64 t, .int .i64 R] 25 (0, 0)) := (hb1.block _ (by simp)).trans HC0.out
  have g0 : (w1.alloc (.cells #[.int .i64 0, .int .i64 (-1)] 30)).cell? ⟨w.heap.size, 0, none⟩ = some (.int .i64 n) := cell_kept _ (by simp [World.cell?, hc1])
  have g1 : (w1.alloc (.cells #[.int .i64 0, .int .i64 (-1)] 30)).cell? ⟨w.heap.size, 1, none⟩ = some (.int .i64 t) := cell_kept _ (by simp [World.cell?, hc1])
  have g2 : (w1.alloc (.cells #[.int .i64 0, .int .i64 (-1)] 30)).cell? ⟨w.heap.size, 2, none⟩ = some (.int .i64 R) := cell_kept _ (by simp [World.cell?, hc1])
  clear hb1 hc1
  have HBA : Hid (Below w.heap.size w (w1.alloc (.cells #[.int .i64 0, .int .i64 (-1)] 30))) := HB1.out.trans (HA1.out.mono HB1.out.size)
  go_wp2_with fail
  refine (lof_any n t R _).mono ?_
  rintro e w2 ⟨rfl, hb2⟩
  have HB2 : Hid (Below w.heap.size w w2) := HBA.out.trans (hb2.mono HBA.out.size)
  go_wp2_with fail
  rw [← HN.out]
  refine (rconform_any n t R x cap xs _ H.out HO.out (HI.out.below HB2.out)).mono ?_
  rintro e w3 ⟨v3, rfl, hv3, hb3⟩
  rw [HN.out] at hv3 ⊢
  obtain ⟨y3, c3, rfl, hr3⟩ := bls_row hv3
  have HR3 : Hid (RowBO w3 y3 len (bok n t R xs)) := hr3
  have HB3 : Hid (Below w.heap.size w w3) := HB2.out.trans (hb3.mono HB2.out.size)
  have HA3 : Hid (Below (w1.alloc (.cells #[.int .i64 0, .int .i64 (-1)] 30)).heap.size (w1.alloc (.cells #[.int .i64 0, .int .i64 (-1)] 30)) w3) := hb2.trans (hb3.mono hb2.size)
  have k0 := cell_below HA3.out g0
  have k1 := cell_below HA3.out g1
  have k2 := cell_below HA3.out g2
  clear hv3 hb2 hb3 hr3
  go_wp2_with fail
  rw [← HN.out]
  refine (conform_yes n t R x cap xs _ H.out HO.out (HL.out.below HB3.out) (HI.out.below HB3.out)).mono ?_
  rintro e w4 ⟨g4, rfl, _, hr4, hb4⟩
  rw [HN.out] at hr4 ⊢
  have HR4 : Hid (RowBO w4 (some ⟨g4, 0, none⟩) len (bok n t R xs)) := RowBO.of hr4
  have HR5 : Hid (RowBO w4 y3 len (bok n t R xs)) := HR3.out.below hb4
  have HB4 : Hid (Below w.heap.size w w4) := HB3.out.trans (hb4.mono HB3.out.size)
  have hA4 := HA3.out.trans (hb4.mono HA3.out.size)
  have hc2 : w4.cell? ⟨w1.heap.size, 0, none⟩ = some (.int .i64 0) := by rw [hA4.cell (by simp)]; simp [go_sem]
  have hc3 : w4.cell? ⟨w1.heap.size, 1, none⟩ = some (.int .i64 (-1)) := by rw [hA4.cell (by simp)]; simp [go_sem]
  clear hb4 hr4 hA4
  go_wp2_with fail
  refine (at_true _ (Or.inl ⟨rfl, rfl, rfl⟩) (HL.out.below HB4.out)).mono ?_
  rintro e w5 ⟨rfl, hb5⟩
  have HB5 : Hid (Below w.heap.size w w5) := HB4.out.trans (hb5.mono HB4.out.size)
  have HR6 : Hid (RowBO w5 (some ⟨g4, 0, none⟩) len (bok n t R xs)) := HR4.out.below hb5
  have HR7 : Hid (RowBO w5 y3 len (bok n t R xs)) := HR5.out.below hb5
  clear hb5
  go_wp2_with fail
  refine (sameB_any _ _ _ _ len (bok n t R xs) _ (HN.out ▸ HM.out) HR6.out HR7.out).mono ?_
  rintro e w6 ⟨rfl, q, rfl⟩
  go_wp2
  go_ret
  exact ⟨rfl, below_drewN HB5.out _⟩

theorem bconf_any (n t R : Int) (x : Option Addr) (cap : Nat) (xs : List It) (w : World) (hL : Laid w) (hF : FineLaid w) (hI : ItemsAt w x xs) (hm : xs.length ≤ maxLen) :
    Calls Tryz.prog 3 #[.agg #[.int .i64 n, .int .i64 t, .int .i64 R], .slice x xs.length cap] w fun e w' => e = .returned (.bool true) ∧ Below w.heap.size w w' := by
  by_cases h : (40 < xs.length ∧ xs.length ≤ 100) ∨ 150 < xs.length
  · exact bconf_many n t R x _ cap w hm h
  · by_cases hb : okB n t R
    · by_cases hl : okL xs
      · exact bconf_yes n t R x cap xs w hm h hb hl hL hF hI
      · exact bconf_nol n t R x cap xs w hm h hb hl hL hF hI
    · exact bconf_nob n t R x _ cap w hm h hb hL
end Go.Proofs.YtbghpepojonegaaGreatDoor
