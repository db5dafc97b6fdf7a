/-
  The reference's Text: any, a test, the bits of a number. Conditions: the filter lies in memory; what the program and the reference lay is laid. Written by wip/mkrt2.py.
-/
import Derived.Test.YtibecinojkkjpaaGreatDoorRt1
import Derived.Test.YtibecinojkkjpaaGreatDoorRp4
namespace Go.Proofs.YtibecinojkkjpaaGreatDoor
open Go.RowKit Go.Extern.Stop Go.Stop Go.Extern

theorem cells5t {w : World} {b : Nat} {v0 v1 v2 v3 v4 : Value} {T : TypeId} (hb : w.heap[b]? = some (.cells #[v0, v1, v2, v3, v4] T (0, 0))) : w.cell? ⟨b, 0, none⟩ = some v0 ∧ w.cell? ⟨b, 1, none⟩ = some v1 ∧ w.cell? ⟨b, 2, none⟩ = some v2 ∧ w.cell? ⟨b, 3, none⟩ = some v3 ∧ w.cell? ⟨b, 4, none⟩ = some v4 := by
  refine ⟨?_, ?_, ?_, ?_, ?_⟩
  all_goals simp [World.cell?, hb]
theorem one_cell (w : World) (v : Value) (T : TypeId) : (w.alloc (.cells #[v] T)).cell? ⟨w.heap.size, 0, none⟩ = some v := by
  have k := new_block w (.cells #[v] T)
  generalize w.alloc (.cells #[v] T) = W at *
  simp [World.cell?, k]
theorem below_drewNt (B : Nat) (w : World) (n : Nat) : Below B w (w.drewN n) := ⟨rfl, rfl, rfl, Nat.le_refl _, fun _ _ => rfl⟩
theorem rt_any (b : Nat) (f lo hi : Int) (sl : Value) (w1 : World) (hb : w1.heap[b]? = some (.cells #[.string ⟨#[97, 110, 121]⟩, .int .i64 f, .int .i64 lo, .int .i64 hi, sl] 63 (0, 0))) :
    Calls Tryz.prog 8 #[.pointer (some ⟨b, 0, none⟩)] w1 fun e w' => e = .returned (.string ⟨#[97, 110, 121]⟩) ∧ Below w1.heap.size w1 w' := by
  obtain ⟨c0, c1, c2, c3, c4⟩ := cells5t hb
  go_enter Tryz.func8, Tryz.ntmps8
  go_wp2
  go_ret
  exact ⟨rfl, Below.refl _ _⟩
set_option maxRecDepth 100000 in
set_option maxHeartbeats 4000000 in
theorem rt_has (b f : Nat) (hf : f < 5) (lo hi : Int) (h0 : 0 ≤ lo) (h1 : lo ≤ 1000000000) (sl : Value) (w1 : World) (hb : w1.heap[b]? = some (.cells #[.string ⟨#[104, 97, 115]⟩, .int .i64 f, .int .i64 lo, .int .i64 hi, sl] 63 (0, 0))) (hR : GlobR w1) (hG : GlobF w1) :
    Calls Tryz.prog 8 #[.pointer (some ⟨b, 0, none⟩)] w1 fun e w' => e = .returned (.string ⟨(Lib.join [nameF f, [104, 97, 115], Lib.itoa lo] [32]).toArray⟩) ∧ Below w1.heap.size w1 w' := by
  have HTO : Hid (∀ (n : Int), 0 ≤ n → n ≤ 1000000000 → ∀ w2 : World, Below w1.heap.size w1 w2 → Calls Tryz.prog 21 #[.slice (some ⟨w2.heap.size, 0, none⟩) 1 1] (w2.alloc (.cells #[.int .i64 n] 3)) fun e w' => e = .returned (.string ⟨(Lib.itoa n).toArray⟩) ∧ Below w1.heap.size w1 w') := by
    intro n a0 a1 w2 hb2
    have hbA : Below w1.heap.size w1 (w2.alloc (.cells #[.int .i64 n] 3)) := below_alloc_ hb2 _
    refine (rtold_any n w2.heap.size _ (one_cell _ _ _) a0 a1 (hG.below hbA)).mono ?_
    rintro e w' ⟨rfl, hb⟩
    exact ⟨rfl, hbA.trans (hb.mono hbA.size)⟩
  have HTD : Hid (∀ (n : Int), 0 ≤ n → n ≤ 1000000000 → ∀ w2 : World, Below w1.heap.size w1 w2 → Calls Tryz.prog 21 #[.slice (some ⟨w2.heap.size, 0, none⟩) 1 1] (w2.alloc (.cells #[.int .i64 n] 3)).drew fun e w' => e = .returned (.string ⟨(Lib.itoa n).toArray⟩) ∧ Below w1.heap.size w1 w') := by
    intro n a0 a1 w2 hb2
    have hbA : Below w1.heap.size w1 (w2.alloc (.cells #[.int .i64 n] 3)).drew := (below_alloc_ hb2 _).drew
    refine (rtold_any n w2.heap.size (w2.alloc (.cells #[.int .i64 n] 3)).drew (one_cell w2 _ _) a0 a1 (hG.below hbA)).mono ?_
    rintro e w' ⟨rfl, hb⟩
    exact ⟨rfl, hbA.trans (hb.mono hbA.size)⟩
  obtain ⟨fb, fo, fc, g0, gn⟩ := hR.fs
  have g1 := gn f hf
  have hnl := nameF_len f
  have hil := itoa_len h0 (by omega)
  have HTL : Hid (∀ w2 : World, Below w1.heap.size w1 w2 → Calls Tryz.prog 21 #[.slice (some ⟨w2.heap.size, 0, none⟩) 1 1] (w2.alloc (.cells #[.int .i64 lo] 3)).drew fun e w' => e = .returned (.string ⟨(Lib.itoa lo).toArray⟩) ∧ Below w1.heap.size w1 w') := HTD.out lo h0 (by omega)
  have HEQ : Hid (Lib.join [nameF f, [104, 97, 115], Lib.itoa lo] [32] = nameF f ++ [32, 104, 97, 115, 32] ++ Lib.itoa lo) := by show _ = _; simp [Lib.join]
  generalize nameF f = nm at *
  generalize Lib.itoa lo = it at *
  obtain ⟨c0, c1, c2, c3, c4⟩ := cells5t hb
  have HSC : Hid (∀ w', Below w1.heap.size w1 w' → w'.cell? ⟨0, 0, none⟩ = some (.slice (some ⟨fb, fo, none⟩) 5 fc) ∧ w'.cell? ⟨fb, fo + f, none⟩ = some (.string ⟨nm.toArray⟩) ∧ w'.cell? ⟨b, 1, none⟩ = some (.int .i64 f) ∧ w'.cell? ⟨b, 2, none⟩ = some (.int .i64 lo) ∧ w'.cell? ⟨b, 3, none⟩ = some (.int .i64 hi) ∧ Below w1.heap.size w1 w') := by
    intro w' h
    obtain ⟨x0, x1, x2, x3, x4⟩ := cells5t ((h.block b (lt_of_block hb)).trans hb)
    exact ⟨(h.cell (p := ⟨_, 0, none⟩) (cell_lt g0)).trans g0, (h.cell (p := ⟨fb, fo + f, none⟩) (cell_lt g1)).trans g1, x1, x2, x3, h⟩
  have s1 : ¬ (9223372036854775807 < nm.length + 5) := by omega
  have s2 : ¬ (9223372036854775807 < nm.length + 5 + it.length) := by omega
  have hf1 : (f : Int) < 5 := by omega
  rw [HEQ.out]
  clear HEQ
  generalize hhd : nm ++ [32, 104, 97, 115, 32] ++ it = hd at *
  have HHD : Hid (nm ++ [32, 104, 97, 115, 32] ++ it = hd) := hhd
  clear hhd hR hG gn HTO HTD hnl hil
  go_enter Tryz.func8, Tryz.ntmps8
  go_upto_region 10 with (fail)
  go_cut [2] (fun v wx => v = .string ⟨hd.toArray⟩ ∧ Below w1.heap.size w1 wx)
  case first =>
    go_wp2_with fail
    go_region_held3 (fun w' => w'.cell? ⟨0, 0, none⟩ = some (.slice (some ⟨fb, fo, none⟩) 5 fc) ∧ w'.cell? ⟨fb, fo + f, none⟩ = some (.string ⟨nm.toArray⟩) ∧ w'.cell? ⟨b, 1, none⟩ = some (.int .i64 f) ∧ w'.cell? ⟨b, 2, none⟩ = some (.int .i64 lo) ∧ w'.cell? ⟨b, 3, none⟩ = some (.int .i64 hi) ∧ Below w1.heap.size w1 w') ((refine HSC.out _ ?_; (repeat (first | exact Below.refl _ _ | assumption | refine Below.drew ?_ | refine below_alloc_ ?_ _)))) ((go_at_call 21; refine (HTL.out _ (by (repeat (first | exact Below.refl _ _ | assumption | refine Below.drew ?_ | refine below_alloc_ ?_ _)))).mono ?_; rintro e wa ⟨rfl, hba⟩; obtain ⟨qa0, qa1, qa2, qa3, qa4, -⟩ := HSC.out _ hba))
    all_goals go_wp2
    all_goals
      go_meet
      case rel => exact ⟨by rw [← HHD.out, ← app_ba, ← app_ba], hba⟩
  case rest =>
  obtain ⟨rfl, hbc⟩ := hcut
  go_wp2
  go_ret
  exact ⟨rfl, hbc⟩
set_option maxRecDepth 100000 in
set_option maxHeartbeats 4000000 in
theorem rt_test (b f : Nat) (hf : f < 5) (lo hi : Int) (h0 : 0 ≤ lo) (h1 : lo ≤ hi) (h2 : hi ≤ 1000000000) (sl : Value) (w1 : World) (hb : w1.heap[b]? = some (.cells #[.string ⟨#[116, 101, 115, 116]⟩, .int .i64 f, .int .i64 lo, .int .i64 hi, sl] 63 (0, 0))) (hR : GlobR w1) (hG : GlobF w1) :
    Calls Tryz.prog 8 #[.pointer (some ⟨b, 0, none⟩)] w1 fun e w' => e = .returned (.string ⟨(Lib.join [nameF f, Lib.itoa lo] [32] ++ (if lo < hi then [46, 46] ++ Lib.itoa hi else [])).toArray⟩) ∧ Below w1.heap.size w1 w' := by
  have HTO : Hid (∀ (n : Int), 0 ≤ n → n ≤ 1000000000 → ∀ w2 : World, Below w1.heap.size w1 w2 → Calls Tryz.prog 21 #[.slice (some ⟨w2.heap.size, 0, none⟩) 1 1] (w2.alloc (.cells #[.int .i64 n] 3)) fun e w' => e = .returned (.string ⟨(Lib.itoa n).toArray⟩) ∧ Below w1.heap.size w1 w') := by
    intro n a0 a1 w2 hb2
    have hbA : Below w1.heap.size w1 (w2.alloc (.cells #[.int .i64 n] 3)) := below_alloc_ hb2 _
    refine (rtold_any n w2.heap.size _ (one_cell _ _ _) a0 a1 (hG.below hbA)).mono ?_
    rintro e w' ⟨rfl, hb⟩
    exact ⟨rfl, hbA.trans (hb.mono hbA.size)⟩
  have HTD : Hid (∀ (n : Int), 0 ≤ n → n ≤ 1000000000 → ∀ w2 : World, Below w1.heap.size w1 w2 → Calls Tryz.prog 21 #[.slice (some ⟨w2.heap.size, 0, none⟩) 1 1] (w2.alloc (.cells #[.int .i64 n] 3)).drew fun e w' => e = .returned (.string ⟨(Lib.itoa n).toArray⟩) ∧ Below w1.heap.size w1 w') := by
    intro n a0 a1 w2 hb2
    have hbA : Below w1.heap.size w1 (w2.alloc (.cells #[.int .i64 n] 3)).drew := (below_alloc_ hb2 _).drew
    refine (rtold_any n w2.heap.size (w2.alloc (.cells #[.int .i64 n] 3)).drew (one_cell w2 _ _) a0 a1 (hG.below hbA)).mono ?_
    rintro e w' ⟨rfl, hb⟩
    exact ⟨rfl, hbA.trans (hb.mono hbA.size)⟩
  obtain ⟨fb, fo, fc, g0, gn⟩ := hR.fs
  have g1 := gn f hf
  have hnl := nameF_len f
  have hil := itoa_len h0 (by omega)
  have HTL : Hid (∀ w2 : World, Below w1.heap.size w1 w2 → Calls Tryz.prog 21 #[.slice (some ⟨w2.heap.size, 0, none⟩) 1 1] (w2.alloc (.cells #[.int .i64 lo] 3)).drew fun e w' => e = .returned (.string ⟨(Lib.itoa lo).toArray⟩) ∧ Below w1.heap.size w1 w') := HTD.out lo h0 (by omega)
  have HTH : Hid (∀ w2 : World, Below w1.heap.size w1 w2 → Calls Tryz.prog 21 #[.slice (some ⟨w2.heap.size, 0, none⟩) 1 1] (w2.alloc (.cells #[.int .i64 hi] 3)) fun e w' => e = .returned (.string ⟨(Lib.itoa hi).toArray⟩) ∧ Below w1.heap.size w1 w') := HTO.out hi (by omega) h2
  have hih := itoa_len (n := hi) (by omega) h2
  have HEQ : Hid (Lib.join [nameF f, Lib.itoa lo] [32] = nameF f ++ [32] ++ Lib.itoa lo) := by show _ = _; simp [Lib.join]
  rw [HEQ.out]
  clear HEQ
  generalize nameF f = nm at *
  generalize Lib.itoa hi = ih at *
  generalize Lib.itoa lo = it at *
  have HT1 : Hid (lo < hi → (if lo < hi then [46, 46] ++ ih else []) = [46, 46] ++ ih) := fun h => by rw [if_pos h]
  have HT2 : Hid (¬ lo < hi → (if lo < hi then [46, 46] ++ ih else []) = []) := fun h => by rw [if_neg h]
  generalize (if lo < hi then [46, 46] ++ ih else []) = tl at *
  obtain ⟨c0, c1, c2, c3, c4⟩ := cells5t hb
  have HSC : Hid (∀ w', Below w1.heap.size w1 w' → w'.cell? ⟨0, 0, none⟩ = some (.slice (some ⟨fb, fo, none⟩) 5 fc) ∧ w'.cell? ⟨fb, fo + f, none⟩ = some (.string ⟨nm.toArray⟩) ∧ w'.cell? ⟨b, 1, none⟩ = some (.int .i64 f) ∧ w'.cell? ⟨b, 2, none⟩ = some (.int .i64 lo) ∧ w'.cell? ⟨b, 3, none⟩ = some (.int .i64 hi) ∧ Below w1.heap.size w1 w') := by
    intro w' h
    obtain ⟨x0, x1, x2, x3, x4⟩ := cells5t ((h.block b (lt_of_block hb)).trans hb)
    exact ⟨(h.cell (p := ⟨_, 0, none⟩) (cell_lt g0)).trans g0, (h.cell (p := ⟨fb, fo + f, none⟩) (cell_lt g1)).trans g1, x1, x2, x3, h⟩
  have s1 : ¬ (9223372036854775807 < nm.length + 1) := by omega
  have s2 : ¬ (9223372036854775807 < nm.length + 1 + it.length) := by omega
  have s3 : ¬ (9223372036854775807 < 2 + ih.length) := by omega
  have s4 : ¬ (9223372036854775807 < (nm ++ [32] ++ it).length + (2 + ih.length)) := by simp; omega
  generalize hhd : nm ++ [32] ++ it = hd at *
  have HHD : Hid (nm ++ [32] ++ it = hd) := hhd
  clear hhd
  have hf1 : (f : Int) < 5 := by omega
  clear hR hG gn HTO HTD hnl hil hih
  go_enter Tryz.func8, Tryz.ntmps8
  go_upto_region 5 with (fail)
  go_cut [3] (fun v wx => v = .string ⟨hd.toArray⟩ ∧ Below w1.heap.size w1 wx)
  case first =>
    go_wp2_with fail
    go_region_held3 (fun w' => w'.cell? ⟨0, 0, none⟩ = some (.slice (some ⟨fb, fo, none⟩) 5 fc) ∧ w'.cell? ⟨fb, fo + f, none⟩ = some (.string ⟨nm.toArray⟩) ∧ w'.cell? ⟨b, 1, none⟩ = some (.int .i64 f) ∧ w'.cell? ⟨b, 2, none⟩ = some (.int .i64 lo) ∧ w'.cell? ⟨b, 3, none⟩ = some (.int .i64 hi) ∧ Below w1.heap.size w1 w') ((refine HSC.out _ ?_; (repeat (first | exact Below.refl _ _ | assumption | refine Below.drew ?_ | refine below_alloc_ ?_ _)))) ((go_at_call 21; refine (HTL.out _ (by (repeat (first | exact Below.refl _ _ | assumption | refine Below.drew ?_ | refine below_alloc_ ?_ _)))).mono ?_; rintro e wa ⟨rfl, hba⟩; obtain ⟨qa0, qa1, qa2, qa3, qa4, -⟩ := HSC.out _ hba))
    all_goals go_wp2
    all_goals
      go_meet
      case rel => exact ⟨by rw [← HHD.out, ← app_ba, ← app_ba], hba⟩
  case rest =>
  obtain ⟨rfl, hbc⟩ := hcut
  have HBC : Hid (Below w1.heap.size w1 wc) := hbc
  obtain ⟨q0, q1, q2, q3, q4, -⟩ := HSC.out _ hbc
  clear s1 s2 hbc
  by_cases hlt : lo < hi
  · have d1 : (hi == lo) = false := by simp; omega
    have d2 : (hi != lo) = true := by simp; omega
    obtain rfl := HT1.out hlt
    go_upto_region 6 with (fail)
    go_cut [38] (fun v wx => v = .bool true ∧ Below wc.heap.size wc wx)
    case first =>
      go_wp2
      go_quiet (fail)
      all_goals go_wp2
      all_goals
        go_meet
        case rel => exact ⟨rfl, below_drewNt _ _ _⟩
    case rest =>
    obtain ⟨rfl, hbd⟩ := hcut
    rename_i wd _
    have HBD := HBC.out.trans (hbd.mono HBC.out.size)
    obtain ⟨r0, r1, r2, r3, r4, -⟩ := HSC.out _ HBD
    go_wp2_with fail
    refine (HTH.out _ HBD).mono ?_
    rintro e we ⟨rfl, hbe⟩
    go_wp2
    go_ret
    refine ⟨?_, hbe⟩
    rw [← app_ba, ← app_ba]
    rfl
  · have d1 : (hi == lo) = true := by simp; omega
    have d2 : (hi != lo) = false := by simp; omega
    obtain rfl := HT2.out hlt
    go_upto_region 6 with (fail)
    go_cut [38] (fun v wx => v = .bool false ∧ Below wc.heap.size wc wx)
    case first =>
      go_wp2
      go_quiet (fail)
      all_goals go_wp2
      all_goals
        go_meet
        case rel => exact ⟨rfl, below_drewNt _ _ _⟩
    case rest =>
    obtain ⟨rfl, hbd⟩ := hcut
    have HBD := HBC.out.trans (hbd.mono HBC.out.size)
    go_wp2
    go_ret
    exact ⟨by simp, HBD⟩
end Go.Proofs.YtibecinojkkjpaaGreatDoor
