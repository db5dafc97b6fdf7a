/-
  bucket.Check, tell and Take, New: what each returns, what it leaves in the state, and that nothing else that was there before is otherwise. Conditions: those of the texts ahead; Check and New: none.
  bucket.When: the first time at which so many bytes are in it, or never; Take beyond MaxTime: nothing is done. Conditions: a bucket that may be, a level within its room, times up to MaxTime (When).
-/
import Derived.Test.YtpgdocmpbeabpaaDoorBk1
namespace Go.Proofs.YtpgdocmpbeabpaaDoor
open Go.RowKit Go.Extern.Stop Go.Stop Go.Extern

theorem okB.rate {n t R : Int} (h : okB n t R) : okRate n t = true := by
  obtain ⟨h1, h2, _⟩ := h
  simp [okRate, wth]; omega
theorem bcheck_yes (n t R : Int) (w : World) (h : okB n t R) :
    Calls Tryd.prog 13 #[.agg #[.int .i64 n, .int .i64 t, .int .i64 R]] w fun e w' => e = .returned .nilIface ∧ Below w.heap.size w w' := by
  have HR : Hid (okRate n t = true) := h.rate
  obtain ⟨hn, ht, h0, h1⟩ := h
  go_enter Tryd.func13, Tryd.ntmps13
  go_wp2_with (go_at_call 26; refine (speed_yes _ _ _ HR.out).mono ?_; rintro e w' ⟨rfl, rfl⟩)
  go_ret
  exact ⟨rfl, ((Below.refl _ _).alloc (Nat.le_refl _) _).alloc (by simp) _⟩
theorem bcheck_no (n t R : Int) (w : World) (h : ¬ okB n t R) :
    Calls Tryd.prog 13 #[.agg #[.int .i64 n, .int .i64 t, .int .i64 R]] w fun e w' => e = .returned (.iface 65 (.int .i64 2)) ∧ Below w.heap.size w w' := by
  cases hr : okRate n t with
  | false =>
    have HR : Hid (okRate n t = false) := hr
    clear hr h
    go_enter Tryd.func13, Tryd.ntmps13
    go_wp2_with (go_at_call 26; refine (speed_no _ _ _ HR.out).mono ?_; rintro e w' ⟨rfl, rfl⟩)
    go_ret
    exact ⟨rfl, ((Below.refl _ _).alloc (Nat.le_refl _) _).alloc (by simp) _⟩
  | true =>
    have HR : Hid (okRate n t = true) := hr
    have hh : ¬ (0 ≤ R ∧ R ≤ 1000000) := fun hc => h (by
      simp only [okRate, Bool.and_eq_true, wth_iff] at hr
      exact ⟨hr.1, hr.2, hc⟩)
    clear hr h
    by_cases h0 : R < 0
    · clear hh
      go_enter Tryd.func13, Tryd.ntmps13
      go_wp2_with (go_at_call 26; refine (speed_yes _ _ _ HR.out).mono ?_; rintro e w' ⟨rfl, rfl⟩)
      go_ret
      exact ⟨rfl, ((Below.refl _ _).alloc (Nat.le_refl _) _).alloc (by simp) _⟩
    · have h1 : 1000000 < R := by omega
      clear hh
      go_enter Tryd.func13, Tryd.ntmps13
      go_wp2_with (go_at_call 26; refine (speed_yes _ _ _ HR.out).mono ?_; rintro e w' ⟨rfl, rfl⟩)
      go_ret
      exact ⟨rfl, ((Below.refl _ _).alloc (Nat.le_refl _) _).alloc (by simp) _⟩

theorem tell_yes {n t R lev lat : Int} (now : Int) {s o : Nat} {pre post : List Value} {ty : TypeId} (w : World) (h : StG w s o pre post ty n t R lev lat) (hb : okB n t R) (hl0 : 0 ≤ lev) (hl1 : lev ≤ R * t) (ht0 : 0 ≤ lat) (ht1 : now ≤ 1000000000) :
    Calls Tryd.prog 39 #[.pointer (some ⟨s, o, none⟩), .int .i64 now] w fun e w' => e = .returned (.bool true) ∧ StG w' s o pre post ty n t R (pas n t R lev lat now) (lat1 lat now) ∧ Oth (· = s) w w' := by
  obtain ⟨c0, c1, c2, c3, c4, f3, f4⟩ := h.cells
  have H : Hid (StG w s o pre post ty n t R lev lat) := h
  have HB : Hid (okB n t R) := hb
  have HL0 : Hid (0 ≤ lev) := hl0
  have HL1 : Hid (lev ≤ R * t) := hl1
  clear h hb
  go_enter Tryd.func39, Tryd.ntmps39
  go_wp2_with fail
  refine (bcheck_yes _ _ _ _ HB.out).mono ?_
  rintro e w1 ⟨rfl, hb1⟩
  have H1 : Hid (StG w1 s o pre post ty n t R lev lat) := H.out.kept (S := fun _ => False) (Oth.of_below hb1) id
  go_wp2_with (go_at_call 47; refine (pass_any _ _ H1.out HB.out HL0.out HL1.out ht0 ht1).mono ?_; rintro e w2 ⟨rfl, hs2, ho2⟩)
  go_ret
  exact ⟨rfl, hs2, (Oth.of_below hb1).trans ho2⟩

/-- A bucket's state when it is told the time: level, latest. -/
theorem pas_room {n t R lev lat now : Int} (hn : 1 ≤ n) (hl0 : 0 ≤ lev) (hl1 : lev ≤ R * t) : 0 ≤ pas n t R lev lat now ∧ pas n t R lev lat now ≤ R * t := by
  unfold pas
  split
  · exact ⟨hl0, hl1⟩
  · have : 0 ≤ (now - lat) * n := Int.mul_nonneg (by omega) (by omega)
    split <;> omega
theorem take_yes {n t R lev lat : Int} (now x : Int) {s o : Nat} {pre post : List Value} {ty : TypeId} (w : World) (h : StG w s o pre post ty n t R lev lat) (hb : okB n t R) (hl0 : 0 ≤ lev) (hl1 : lev ≤ R * t) (ht0 : 0 ≤ lat) (ht1 : now ≤ 1000000000) (hx0 : 0 ≤ x) (hx1 : x ≤ 1000000) :
    Calls Tryd.prog 25 #[.pointer (some ⟨s, o, none⟩), .int .i64 now, .int .i64 x] w fun e w' => e = .returned (.bool (drwB t (pas n t R lev lat now) x)) ∧ StG w' s o pre post ty n t R (drw t (pas n t R lev lat now) x) (lat1 lat now) ∧ Oth (· = s) w w' := by
  have HT := tell_yes now w h hb hl0 hl1 ht0 ht1
  have hp := pas_room (n := n) (t := t) (R := R) (lat := lat) (now := now) hb.1.1 hl0 hl1
  have HP : Hid (0 ≤ pas n t R lev lat now ∧ pas n t R lev lat now ≤ R * t) := hp
  have HB : Hid (okB n t R) := hb
  clear h hb hp
  go_enter Tryd.func25, Tryd.ntmps25
  go_wp2_with (first | (go_at_call 39; refine HT.mono ?_; rintro e w1 ⟨rfl, hs1, ho1⟩) | (go_at_call 40; refine (draw_any _ _ hs1 HB.out HP.out.1 HP.out.2 hx0 hx1).mono ?_; rintro e w2 ⟨rfl, hs2, ho2⟩))
  go_ret
  exact ⟨rfl, hs2, ho1.trans ho2⟩

theorem new_no (n t R : Int) (w : World) (h : ¬ okB n t R) :
    Calls Tryd.prog 38 #[.agg #[.int .i64 n, .int .i64 t, .int .i64 R]] w fun e w' => e = .returned (.tuple #[.pointer none, .iface 65 (.int .i64 2)]) ∧ Below w.heap.size w w' := by
  have H : Hid (¬ okB n t R) := h
  clear h
  go_enter Tryd.func38, Tryd.ntmps38
  go_wp2_with (go_at_call 13; refine (bcheck_no _ _ _ _ H.out).mono ?_; rintro e w1 ⟨rfl, hb1⟩)
  go_ret2
  exact ⟨rfl, ((Below.refl _ _).alloc (Nat.le_refl _) _).trans (hb1.mono (by simp))⟩
theorem new_yes (n t R : Int) (w : World) (h : okB n t R) :
    Calls Tryd.prog 38 #[.agg #[.int .i64 n, .int .i64 t, .int .i64 R]] w fun e w' => ∃ s, e = .returned (.tuple #[.pointer (some ⟨s, 0, none⟩), .nilIface]) ∧ w.heap.size ≤ s ∧ StAt w' s n t R (R * t) 0 ∧ Below w.heap.size w w' := by
  have H : Hid (okB n t R) := h
  clear h
  go_enter Tryd.func38, Tryd.ntmps38
  go_wp2_with fail
  refine (bcheck_yes _ _ _ _ H.out).mono ?_
  rintro e w1 ⟨rfl, hb1⟩
  have c0 : w1.cell? ⟨w.heap.size, 0, none⟩ = some (.int .i64 n) := by rw [hb1.cell (by simp)]; simp
  have c1 : w1.cell? ⟨w.heap.size, 1, none⟩ = some (.int .i64 t) := by rw [hb1.cell (by simp)]; simp
  have c2 : w1.cell? ⟨w.heap.size, 2, none⟩ = some (.int .i64 R) := by rw [hb1.cell (by simp)]; simp
  have hlt : w.heap.size < w1.heap.size := lt_of_cell c0
  have hB : Below w.heap.size w w1 := ((Below.refl _ _).alloc (Nat.le_refl _) _).trans (hb1.mono (by simp))
  have HS : Hid (StAt (w1.alloc (.cells #[.int .i64 n, .int .i64 t, .int .i64 R, .int .i64 0, .int .i64 0] 117)) w1.heap.size n t R 0 0) := ⟨rfl, heap_alloc_new _ _⟩
  obtain ⟨d0, d1, d2, d3, d4, f3, f4⟩ := HS.out.cells
  have hr := H.out.room
  obtain ⟨hr0, hr1⟩ := hr
  go_wp2_with (go_at_call 46; refine (worth_any _ _ HS.out hr0 hr1).mono ?_; rintro e w' ⟨rfl, rfl⟩)
  go_ret2
  exact ⟨_, rfl, hB.size, ⟨rfl, heap_alloc_new _ _⟩, hB.alloc hB.size _⟩
end Go.Proofs.YtpgdocmpbeabpaaDoor
namespace Go.Proofs.YtpgdocmpbeabpaaDoor
open Go.RowKit Go.Extern.Stop Go.Stop Go.Extern

theorem tell_late {n t R lev lat : Int} (now : Int) {s o : Nat} {pre post : List Value} {ty : TypeId} (w : World) (_h : StG w s o pre post ty n t R lev lat) (ht1 : 1000000000 < now) :
    Calls Tryd.prog 39 #[.pointer (some ⟨s, o, none⟩), .int .i64 now] w fun e w' => e = .returned (.bool false) ∧ w' = w := by
  clear _h
  go_enter Tryd.func39, Tryd.ntmps39
  go_wp2
  go_ret
  exact ⟨rfl, rfl⟩
theorem take_late {n t R lev lat : Int} (now x : Int) {s o : Nat} {pre post : List Value} {ty : TypeId} (w : World) (h : StG w s o pre post ty n t R lev lat) (ht1 : 1000000000 < now) :
    Calls Tryd.prog 25 #[.pointer (some ⟨s, o, none⟩), .int .i64 now, .int .i64 x] w fun e w' => e = .returned (.bool false) ∧ w' = w := by
  have HT := tell_late now w h ht1
  clear h
  go_enter Tryd.func25, Tryd.ntmps25
  go_wp2_with (go_at_call 39; refine HT.mono ?_; rintro e w1 ⟨rfl, rfl⟩)
  go_ret
  exact ⟨rfl, rfl⟩

theorem when_no {n t R lev lat : Int} (now x : Int) {s o : Nat} {pre post : List Value} {ty : TypeId} (w : World) (h : StG w s o pre post ty n t R lev lat) (hb : okB n t R) (hl0 : 0 ≤ lev) (hl1 : lev ≤ R * t) (ht0 : 0 ≤ lat) (ht1 : now ≤ 1000000000) (hx0 : 0 ≤ x) (hx1 : R < x) :
    Calls Tryd.prog 86 #[.pointer (some ⟨s, o, none⟩), .int .i64 now, .int .i64 x] w fun e w' => e = .returned (.tuple #[.int .i64 0, .bool false]) ∧ StG w' s o pre post ty n t R (pas n t R lev lat now) (lat1 lat now) ∧ Oth (· = s) w w' := by
  have HT := tell_yes now w h hb hl0 hl1 ht0 ht1
  clear h hb
  go_enter Tryd.func86, Tryd.ntmps86
  go_wp2_with fail
  refine HT.mono ?_
  rintro e w1 ⟨rfl, hs1, ho1⟩
  obtain ⟨c0, c1, c2, c3, c4, _, _⟩ := hs1.cells
  have HS : Hid (StG w1 s o pre post ty n t R (pas n t R lev lat now) (lat1 lat now)) := hs1
  clear hs1 HT
  go_wp2
  go_ret2
  exact ⟨rfl, HS.out, ho1⟩

set_option maxHeartbeats 1000000 in
theorem when_yes {n t R lev lat : Int} (now x : Int) {s o : Nat} {pre post : List Value} {ty : TypeId} (w : World) (h : StG w s o pre post ty n t R lev lat) (hb : okB n t R) (hl0 : 0 ≤ lev) (hl1 : lev ≤ R * t) (ht0 : 0 ≤ lat) (ht2 : lat ≤ 1000000000) (ht1 : now ≤ 1000000000) (hx0 : 0 ≤ x) (hx1 : x ≤ R) :
    Calls Tryd.prog 86 #[.pointer (some ⟨s, o, none⟩), .int .i64 now, .int .i64 x] w fun e w' => e = .returned (.tuple #[.int .i64 (whn n t (pas n t R lev lat now) (lat1 lat now) x), .bool true]) ∧ StG w' s o pre post ty n t R (pas n t R lev lat now) (lat1 lat now) ∧ Oth (· = s) w w' := by
  have HT := tell_yes now w h hb hl0 hl1 ht0 ht1
  have hp := pas_room (n := n) (t := t) (R := R) (lat := lat) (now := now) hb.1.1 hl0 hl1
  have hr := hb.room
  have hla : 0 ≤ lat1 lat now ∧ lat1 lat now ≤ 1000000000 := by unfold lat1; split <;> omega
  obtain ⟨hg0, hg1⟩ := prod_bounds (n := t) (R := x) (a := 1000000) (b := 1000000) (by have := hb.2.1; omega) hb.2.1.2 hx0 (by have := hb.2.2; omega)
  have hg1' : x * t ≤ 1000000000000 := by omega
  obtain ⟨⟨hn0, hn1⟩, _, _⟩ := hb
  have HW := @whn_bounds n t (pas n t R lev lat now) (lat1 lat now) x hn0
  generalize pas n t R lev lat now = lv at *
  generalize lat1 lat now = la at *
  clear h ht0 ht2 ht1 hl0 hl1
  obtain ⟨hp0, hp1⟩ := hp
  obtain ⟨hr0, hr1⟩ := hr
  obtain ⟨hla0, hla1⟩ := hla
  clear HW
  by_cases hc : x * t - lv ≤ 0
  · have HC : Hid (whn n t lv la x = la + (n - 1) / n) := by unfold Hid whn; rw [if_pos hc, Int.zero_add]
    have hq0 : 0 ≤ (n - 1) / n := Int.ediv_nonneg (by omega) (by omega)
    have hq1 : (n - 1) / n ≤ 0 := by
      have := Int.ediv_eq_zero_of_lt (a := n - 1) (b := n) (by omega) (by omega); omega
    go_enter Tryd.func86, Tryd.ntmps86
    go_wp2_with fail
    refine HT.mono ?_
    rintro e w1 ⟨rfl, hs1, ho1⟩
    obtain ⟨c0, c1, c2, c3, c4, _, _⟩ := hs1.cells
    have HS : Hid (StG w1 s o pre post ty n t R lv la) := hs1
    clear hs1 HT
    go_wp2
    go_quiet ((go_at_call 46; exact Calls.quiet_of_same (worth_any _ _ HS.out hg0 hg1')))
    go_wp2
    go_quiet (fail)
    go_wp2
    go_ret2
    exact ⟨by rw [HC.out]; rfl, (HS.out.drewN _).drewN _, (ho1.drewN _).drewN _⟩
  · have HC : Hid (whn n t lv la x = la + (x * t - lv + n - 1) / n) := by unfold Hid whn; rw [if_neg hc]
    have hq0 : 0 ≤ (x * t - lv + n - 1) / n := Int.ediv_nonneg (by omega) (by omega)
    have hq1 : (x * t - lv + n - 1) / n ≤ 1000001000000 := by
      have h1 := Int.mul_ediv_add_emod (x * t - lv + n - 1) n
      have h2 := Int.emod_nonneg (x * t - lv + n - 1) (by omega : n ≠ 0)
      have h3 : 1 * ((x * t - lv + n - 1) / n) ≤ n * ((x * t - lv + n - 1) / n) := Int.mul_le_mul_of_nonneg_right hn0 hq0
      omega
    go_enter Tryd.func86, Tryd.ntmps86
    go_wp2_with fail
    refine HT.mono ?_
    rintro e w1 ⟨rfl, hs1, ho1⟩
    obtain ⟨c0, c1, c2, c3, c4, _, _⟩ := hs1.cells
    have HS : Hid (StG w1 s o pre post ty n t R lv la) := hs1
    clear hs1 HT
    go_wp2
    go_quiet ((go_at_call 46; exact Calls.quiet_of_same (worth_any _ _ HS.out hg0 hg1')))
    go_wp2
    go_quiet (fail)
    go_wp2
    go_ret2
    exact ⟨by rw [HC.out]; rfl, (HS.out.drewN _).drewN _, (ho1.drewN _).drewN _⟩
end Go.Proofs.YtpgdocmpbeabpaaDoor
