/-
  bucket.When: the first time at which so many bytes are in it, or never; Take beyond MaxTime: nothing is done. Conditions: a bucket that may be, a level within its room, times up to MaxTime (When).
-/
import Derived.Test.YticplgdfgckicaaGreatDoorGi
namespace Go.Proofs.YticplgdfgckicaaGreatDoor
open Go.RowKit Go.Extern.Stop Go.Stop Go.Extern

theorem tell_late {n t R lev lat : Int} (now : Int) {s o : Nat} {pre post : List Value} {ty : TypeId} (w : World) (_h : StG w s o pre post ty n t R lev lat) (ht1 : 1000000000 < now) :
    Calls Tryz.prog 190 #[.pointer (some ⟨s, o, none⟩), .int .i64 now] w fun e w' => e = .returned (.bool false) ∧ w' = w := by
  clear _h
  go_enter Tryz.func190, Tryz.ntmps190
  go_wp2
  go_ret
  exact ⟨rfl, rfl⟩
theorem take_late {n t R lev lat : Int} (now x : Int) {s o : Nat} {pre post : List Value} {ty : TypeId} (w : World) (h : StG w s o pre post ty n t R lev lat) (ht1 : 1000000000 < now) :
    Calls Tryz.prog 188 #[.pointer (some ⟨s, o, none⟩), .int .i64 now, .int .i64 x] w fun e w' => e = .returned (.bool false) ∧ w' = w := by
  have HT := tell_late now w h ht1
  clear h
  go_enter Tryz.func188, Tryz.ntmps188
  go_wp2_with (go_at_call 190; refine HT.mono ?_; rintro e w1 ⟨rfl, rfl⟩)
  go_ret
  exact ⟨rfl, rfl⟩

theorem when_no {n t R lev lat : Int} (now x : Int) {s o : Nat} {pre post : List Value} {ty : TypeId} (w : World) (h : StG w s o pre post ty n t R lev lat) (hb : okB n t R) (hl0 : 0 ≤ lev) (hl1 : lev ≤ R * t) (ht0 : 0 ≤ lat) (ht1 : now ≤ 1000000000) (hx0 : 0 ≤ x) (hx1 : R < x) :
    Calls Tryz.prog 189 #[.pointer (some ⟨s, o, none⟩), .int .i64 now, .int .i64 x] w fun e w' => e = .returned (.tuple #[.int .i64 0, .bool false]) ∧ StG w' s o pre post ty n t R (pas n t R lev lat now) (lat1 lat now) ∧ Oth (· = s) w w' := by
  have HT := tell_yes now w h hb hl0 hl1 ht0 ht1
  clear h hb
  go_enter Tryz.func189, Tryz.ntmps189
  go_wp2_with fail
  refine HT.mono ?_
  rintro e w1 ⟨rfl, hs1, ho1⟩
  obtain ⟨c0, c1, c2, c3, c4, _, _⟩ := hs1.cells
  have HS : Hid (StG w1 s o pre post ty n t R (pas n t R lev lat now) (lat1 lat now)) := hs1
  clear hs1 HT
  go_wp2
  go_ret2
  exact ⟨rfl, HS.out, ho1⟩

set_option maxHeartbeats 1000000 in
theorem when_yes {n t R lev lat : Int} (now x : Int) {s o : Nat} {pre post : List Value} {ty : TypeId} (w : World) (h : StG w s o pre post ty n t R lev lat) (hb : okB n t R) (hl0 : 0 ≤ lev) (hl1 : lev ≤ R * t) (ht0 : 0 ≤ lat) (ht2 : lat ≤ 1000000000) (ht1 : now ≤ 1000000000) (hx0 : 0 ≤ x) (hx1 : x ≤ R) :
    Calls Tryz.prog 189 #[.pointer (some ⟨s, o, none⟩), .int .i64 now, .int .i64 x] w fun e w' => e = .returned (.tuple #[.int .i64 (whn n t (pas n t R lev lat now) (lat1 lat now) x), .bool true]) ∧ StG w' s o pre post ty n t R (pas n t R lev lat now) (lat1 lat now) ∧ Oth (· = s) w w' := by
  have HT := tell_yes now w h hb hl0 hl1 ht0 ht1
  have hp := pas_room (n := n) (t := t) (R := R) (lat := lat) (now := now) hb.1.1 hl0 hl1
  have hr := hb.room
  have hla : 0 ≤ lat1 lat now ∧ lat1 lat now ≤ 1000000000 := by unfold lat1; split <;> omega
  obtain ⟨hg0, hg1⟩ := prod_bounds (n := t) (R := x) (a := 1000000) (b := 1000000) (by have := hb.2.1; omega) hb.2.1.2 hx0 (by have := hb.2.2; omega)
  have hg1' : x * t ≤ 1000000000000 := by omega
  obtain ⟨⟨hn0, hn1⟩, _, _⟩ := hb
  have HW := @whn_bounds n t (pas n t R lev lat now) (lat1 lat now) x hn0
  generalize pas n t R lev lat now = lv at *
  generalize lat1 lat now = la at *
  clear h ht0 ht2 ht1 hl0 hl1
  obtain ⟨hp0, hp1⟩ := hp
  obtain ⟨hr0, hr1⟩ := hr
  obtain ⟨hla0, hla1⟩ := hla
  clear HW
  by_cases hc : x * t - lv ≤ 0
  · have HC : Hid (whn n t lv la x = la + (n - 1) / n) := by unfold Hid whn; rw [if_pos hc, Int.zero_add]
    have hq0 : 0 ≤ (n - 1) / n := Int.ediv_nonneg (by omega) (by omega)
    have hq1 : (n - 1) / n ≤ 0 := by
      have := Int.ediv_eq_zero_of_lt (a := n - 1) (b := n) (by omega) (by omega); omega
    go_enter Tryz.func189, Tryz.ntmps189
    go_wp2_with fail
    refine HT.mono ?_
    rintro e w1 ⟨rfl, hs1, ho1⟩
    obtain ⟨c0, c1, c2, c3, c4, _, _⟩ := hs1.cells
    have HS : Hid (StG w1 s o pre post ty n t R lv la) := hs1
    clear hs1 HT
    go_wp2
    go_quiet ((go_at_call 79; exact Calls.quiet_of_same (worth_any _ _ HS.out hg0 hg1')))
    go_wp2
    go_quiet (fail)
    go_wp2
    go_ret2
    exact ⟨by rw [HC.out]; rfl, (HS.out.drewN _).drewN _, (ho1.drewN _).drewN _⟩
  · have HC : Hid (whn n t lv la x = la + (x * t - lv + n - 1) / n) := by unfold Hid whn; rw [if_neg hc]
    have hq0 : 0 ≤ (x * t - lv + n - 1) / n := Int.ediv_nonneg (by omega) (by omega)
    have hq1 : (x * t - lv + n - 1) / n ≤ 1000001000000 := by
      have h1 := Int.mul_ediv_add_emod (x * t - lv + n - 1) n
      have h2 := Int.emod_nonneg (x * t - lv + n - 1) (by omega : n ≠ 0)
      have h3 : 1 * ((x * t - lv + n - 1) / n) ≤ n * ((x * t - lv + n - 1) / n) := Int.mul_le_mul_of_nonneg_right hn0 hq0
      omega
    go_enter Tryz.func189, Tryz.ntmps189
    go_wp2_with fail
    refine HT.mono ?_
    rintro e w1 ⟨rfl, hs1, ho1⟩
    obtain ⟨c0, c1, c2, c3, c4, _, _⟩ := hs1.cells
    have HS : Hid (StG w1 s o pre post ty n t R lv la) := hs1
    clear hs1 HT
    go_wp2
    go_quiet ((go_at_call 79; exact Calls.quiet_of_same (worth_any _ _ HS.out hg0 hg1')))
    go_wp2
    go_quiet (fail)
    go_wp2
    go_ret2
    exact ⟨by rw [HC.out]; rfl, (HS.out.drewN _).drewN _, (ho1.drewN _).drewN _⟩
end Go.Proofs.YticplgdfgckicaaGreatDoor
