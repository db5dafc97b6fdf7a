/-
  millracelaw.ItemChecks is true at every list of packets; nothing that was there before is otherwise. Conditions: errors.errorType and millraceref.Fine hold what the program's text lays; the packets lie in memory.
-/
import Derived.Test.YtdeghhdhjamnbaaDoorRefList
import Derived.Deep.RegionHeld3
namespace Go.Proofs.YtdeghhdhjamnbaaDoor
open Go.RowKit Go.Extern.Stop Go.Stop Go.Extern

theorem cell_drawn {w : World} {a : Addr} {v : Value} (h : w.cell? a = some v) : w.drew.cell? a = some v := h
theorem Laid.drew {w : World} (h : Laid w) : Laid w.drew := h

theorem checks_long (x : Option Addr) (n cap : Nat) (w : World) (h : 150 < n) (hm : n ≤ maxLen) : Calls Tryd.prog 3 #[.slice x n cap] w fun e w' => e = .returned (.bool true) ∧ Below w.heap.size w w' := by
  unfold maxLen at hm
  go_enter Tryd.func3, Tryd.ntmps3
  go_wp2
  go_ret
  exact ⟨rfl, Below.refl _ _⟩

set_option maxHeartbeats 2000000 in
theorem checks_any (x : Option Addr) (cap : Nat) (xs : List It) (w : World) (hL : Laid w) (hF : FineLaid w) (hI : ItemsAt w x xs) (h1 : xs.length ≤ 150) :
    Calls Tryd.prog 3 #[.slice x xs.length cap] w fun e w' => e = .returned (.bool true) ∧ Below w.heap.size w w' := by
  generalize hn : xs.length = n at *
  have HN : Hid (xs.length = n) := hn
  have HI : Hid (ItemsAt w x xs) := hI
  clear hn hI
  go_enter Tryd.func3, Tryd.ntmps3
  go_wp2
  go_loopw [3] (fun i wr => ∃ k : Nat, k ≤ n ∧ i = .int .i64 k ∧ Below w.heap.size w wr) (fun i _ => n - (intOf i).toNat)
  case atStart => exact ⟨0, Nat.zero_le _, rfl, Below.refl _ _⟩
  case round =>
    obtain ⟨k, hk, rfl, hb⟩ := hrel
    have hLr : Laid wr := hL.below hb
    by_cases hlt : k < n
    · obtain ⟨y, hy⟩ : ∃ y, xs[k]? = some y := ⟨_, List.getElem?_eq_getElem (by have := HN.out; omega)⟩
      rcases HI.out with hnil | ⟨b, off, hx, hI⟩
      · subst hnil; simp at hy
      subst hx
      obtain ⟨c0, c1, c2, c3, c4⟩ := (hI.below hb) k y hy
      clear hy hI
      have hb1 : (0 : Int) ≤ (k : Int) := by omega
      have hb2 : (k : Int) < (n : Int) := by omega
      cases hok : y.ok with
      | true =>
        have HK : Hid (y.ok = true) := hok
        clear hok
        go_wp2_with fail
        go_region_held3 (fun w' => w'.cell? ⟨b, off + k * 5, none⟩ = some (.int .i64 y.a) ∧ w'.cell? ⟨b, off + k * 5 + 1, none⟩ = some (.int .i64 y.l) ∧ w'.cell? ⟨b, off + k * 5 + 2, none⟩ = some (.int .i64 y.f) ∧ w'.cell? ⟨b, off + k * 5 + 3, none⟩ = some (.int .i64 y.b) ∧ w'.cell? ⟨b, off + k * 5 + 4, none⟩ = some (.int .i64 y.m) ∧ Laid w')
          ((refine ⟨?_, ?_, ?_, ?_, ?_, ?_⟩ <;> repeat (first | with_reducible exact c0 | with_reducible exact c1 | with_reducible exact c2 | with_reducible exact c3 | with_reducible exact c4 | with_reducible exact hLr | with_reducible (refine cell_drawn ?_) | with_reducible (refine cell_kept _ ?_) | with_reducible (refine Laid.drew ?_) | with_reducible (refine Laid.alloc ?_ _) | with_reducible (refine cell_below hbx ?_) | with_reducible (refine Laid.below ?_ hbx))))
          (first | (go_at_call 10; refine (check_yes _ _ _ _ _ _ HK.out).mono ?_; rintro e w' ⟨rfl, rfl⟩) | (go_at_call 11; refine (rcheck_yes _ _ _ _ _ _ HK.out).mono ?_; rintro e w' ⟨rfl, rfl⟩) | (go_at_call 9; refine (bare_true (E := 0) _ (Or.inl ⟨rfl, rfl, rfl⟩) ((hLr.alloc _).alloc _).drew).mono ?_; rintro e w' ⟨rfl, hbx⟩))
        go_wp2
        go_roundw
        case rel => exact ⟨k + 1, by omega, by go_num, ((hb.alloc hb.size _).alloc (by simp; have := hb.size; omega) _).drew.trans (hbx.mono (by simp; have := hb.size; omega))⟩
        case measure => simp [intOf]; omega
      | false =>
        have HK : Hid (y.ok = false) := hok
        clear hok
        go_wp2_with fail
        go_region_held3 (fun w' => w'.cell? ⟨b, off + k * 5, none⟩ = some (.int .i64 y.a) ∧ w'.cell? ⟨b, off + k * 5 + 1, none⟩ = some (.int .i64 y.l) ∧ w'.cell? ⟨b, off + k * 5 + 2, none⟩ = some (.int .i64 y.f) ∧ w'.cell? ⟨b, off + k * 5 + 3, none⟩ = some (.int .i64 y.b) ∧ w'.cell? ⟨b, off + k * 5 + 4, none⟩ = some (.int .i64 y.m) ∧ Laid w')
          ((refine ⟨?_, ?_, ?_, ?_, ?_, ?_⟩ <;> repeat (first | with_reducible exact c0 | with_reducible exact c1 | with_reducible exact c2 | with_reducible exact c3 | with_reducible exact c4 | with_reducible exact hLr | with_reducible (refine cell_drawn ?_) | with_reducible (refine cell_kept _ ?_) | with_reducible (refine Laid.drew ?_) | with_reducible (refine Laid.alloc ?_ _) | with_reducible (refine cell_below hbx ?_) | with_reducible (refine Laid.below ?_ hbx))))
          (first | (go_at_call 10; refine (check_no _ _ _ _ _ _ HK.out).mono ?_; rintro e w' ⟨rfl, rfl⟩) | (go_at_call 11; refine (rcheck_no _ _ _ _ _ _ HK.out).mono ?_; rintro e w' ⟨rfl, rfl⟩) | (go_at_call 9; refine (bare_true (E := 2) _ (Or.inr (Or.inl ⟨rfl, by decide, rfl⟩)) ((hLr.alloc _).alloc _).drew).mono ?_; rintro e w' ⟨rfl, hbx⟩))
        go_wp2
        go_roundw
        case rel => exact ⟨k + 1, by omega, by go_num, ((hb.alloc hb.size _).alloc (by simp; have := hb.size; omega) _).drew.trans (hbx.mono (by simp; have := hb.size; omega))⟩
        case measure => simp [intOf]; omega
    · have hFr : FineLaid wr := hF.below hb
      have hIr : ItemsAt wr x xs := HI.out.below hb
      have HIr : Hid (ItemsAt wr x xs) := hIr
      have HFr : Hid (FineLaid wr) := hFr
      have hm : xs.length ≤ maxLen := by rw [HN.out]; unfold maxLen; omega
      have hl := list_any x cap xs wr hLr hIr hm
      rw [HN.out] at hl
      have HL : Hid (Calls Tryd.prog 13 #[.slice x n cap] wr fun e w' => ∃ v, e = .returned v ∧ ErrIs w' v (listE xs).1 (listE xs).2 ∧ Below wr.heap.size wr w') := hl
      clear hl hIr hFr hF
      go_wp2_with fail
      refine HL.out.mono ?_
      rintro e w1 ⟨v, rfl, he, hb1⟩
      have HE : Hid (ErrIs w1 v (listE xs).1 (listE xs).2) := he
      have hr := rlist_any x cap xs w1 (HFr.out.below hb1) (HIr.out.below hb1) hm
      rw [HN.out] at hr
      have HR : Hid (Calls Tryd.prog 14 #[.slice x n cap] w1 fun e w' => e = .returned (.agg #[.int .i64 (listE xs).1, .int .i64 (listE xs).2]) ∧ Below w1.heap.size w1 w') := hr
      clear hr he HL
      go_wp2_with fail
      refine HR.out.mono ?_
      rintro e w2 ⟨rfl, hb2⟩
      have HE2 : Hid (ErrIs w2 v (listE xs).1 (listE xs).2) := HE.out.below hb2
      have hL2 : Laid w2 := (hLr.below hb1).below hb2
      clear HR HE
      go_wp2_with fail
      refine (at_true _ HE2.out hL2).mono ?_
      rintro e w3 ⟨rfl, hb3⟩
      go_wp2
      go_ret
      have s1 := hb.size
      have s2 := hb1.size
      have s3 := hb2.size
      exact ⟨rfl, hb.trans ((hb1.mono s1).trans ((hb2.mono (by omega)).trans (hb3.mono (by omega))))⟩
end Go.Proofs.YtdeghhdhjamnbaaDoor
