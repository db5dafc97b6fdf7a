/-
  bucket.Check, tell and Take, New: what each returns, what it leaves in the state, and that nothing else that was there before is otherwise. Conditions: those of the texts ahead; Check and New: none.
-/
import Derived.Test.YtnppmigncjakeaaGreatDoorBk1
namespace Go.Proofs.YtnppmigncjakeaaGreatDoor
open Go.RowKit Go.Extern.Stop Go.Stop Go.Extern

theorem okB.rate {n t R : Int} (h : okB n t R) : okRate n t = true := by
  obtain ⟨h1, h2, _⟩ := h
  simp [okRate, wth]; omega
theorem bcheck_yes (n t R : Int) (w : World) (h : okB n t R) :
    Calls Tryz.prog 66 #[.agg #[.int .i64 n, .int .i64 t, .int .i64 R]] w fun e w' => e = .returned .nilIface ∧ Below w.heap.size w w' := by
  have HR : Hid (okRate n t = true) := h.rate
  obtain ⟨hn, ht, h0, h1⟩ := h
  go_enter Tryz.func66, Tryz.ntmps66
  go_wp2_with (go_at_call 80; refine (speed_yes _ _ _ HR.out).mono ?_; rintro e w' ⟨rfl, rfl⟩)
  go_ret
  exact ⟨rfl, ((Below.refl _ _).alloc (Nat.le_refl _) _).alloc (by simp) _⟩
theorem bcheck_no (n t R : Int) (w : World) (h : ¬ okB n t R) :
    Calls Tryz.prog 66 #[.agg #[.int .i64 n, .int .i64 t, .int .i64 R]] w fun e w' => e = .returned (.iface 28 (.int .i64 2)) ∧ Below w.heap.size w w' := by
  cases hr : okRate n t with
  | false =>
    have HR : Hid (okRate n t = false) := hr
    clear hr h
    go_enter Tryz.func66, Tryz.ntmps66
    go_wp2_with (go_at_call 80; refine (speed_no _ _ _ HR.out).mono ?_; rintro e w' ⟨rfl, rfl⟩)
    go_ret
    exact ⟨rfl, ((Below.refl _ _).alloc (Nat.le_refl _) _).alloc (by simp) _⟩
  | true =>
    have HR : Hid (okRate n t = true) := hr
    have hh : ¬ (0 ≤ R ∧ R ≤ 1000000) := fun hc => h (by
      simp only [okRate, Bool.and_eq_true, wth_iff] at hr
      exact ⟨hr.1, hr.2, hc⟩)
    clear hr h
    by_cases h0 : R < 0
    · clear hh
      go_enter Tryz.func66, Tryz.ntmps66
      go_wp2_with (go_at_call 80; refine (speed_yes _ _ _ HR.out).mono ?_; rintro e w' ⟨rfl, rfl⟩)
      go_ret
      exact ⟨rfl, ((Below.refl _ _).alloc (Nat.le_refl _) _).alloc (by simp) _⟩
    · have h1 : 1000000 < R := by omega
      clear hh
      go_enter Tryz.func66, Tryz.ntmps66
      go_wp2_with (go_at_call 80; refine (speed_yes _ _ _ HR.out).mono ?_; rintro e w' ⟨rfl, rfl⟩)
      go_ret
      exact ⟨rfl, ((Below.refl _ _).alloc (Nat.le_refl _) _).alloc (by simp) _⟩

theorem tell_yes {n t R lev lat : Int} (now : Int) {s o : Nat} {pre post : List Value} {ty : TypeId} (w : World) (h : StG w s o pre post ty n t R lev lat) (hb : okB n t R) (hl0 : 0 ≤ lev) (hl1 : lev ≤ R * t) (ht0 : 0 ≤ lat) (ht1 : now ≤ 1000000000) :
    Calls Tryz.prog 53 #[.pointer (some ⟨s, o, none⟩), .int .i64 now] w fun e w' => e = .returned (.bool true) ∧ StG w' s o pre post ty n t R (pas n t R lev lat now) (lat1 lat now) ∧ Oth (· = s) w w' := by
  obtain ⟨c0, c1, c2, c3, c4, f3, f4⟩ := h.cells
  have H : Hid (StG w s o pre post ty n t R lev lat) := h
  have HB : Hid (okB n t R) := hb
  have HL0 : Hid (0 ≤ lev) := hl0
  have HL1 : Hid (lev ≤ R * t) := hl1
  clear h hb
  go_enter Tryz.func53, Tryz.ntmps53
  go_wp2_with fail
  refine (bcheck_yes _ _ _ _ HB.out).mono ?_
  rintro e w1 ⟨rfl, hb1⟩
  have H1 : Hid (StG w1 s o pre post ty n t R lev lat) := H.out.kept (S := fun _ => False) (Oth.of_below hb1) id
  go_wp2_with (go_at_call 46; refine (pass_any _ _ H1.out HB.out HL0.out HL1.out ht0 ht1).mono ?_; rintro e w2 ⟨rfl, hs2, ho2⟩)
  go_ret
  exact ⟨rfl, hs2, (Oth.of_below hb1).trans ho2⟩

/-- A bucket's state when it is told the time: level, latest. -/
theorem pas_room {n t R lev lat now : Int} (hn : 1 ≤ n) (hl0 : 0 ≤ lev) (hl1 : lev ≤ R * t) : 0 ≤ pas n t R lev lat now ∧ pas n t R lev lat now ≤ R * t := by
  unfold pas
  split
  · exact ⟨hl0, hl1⟩
  · have : 0 ≤ (now - lat) * n := Int.mul_nonneg (by omega) (by omega)
    split <;> omega
theorem take_yes {n t R lev lat : Int} (now x : Int) {s o : Nat} {pre post : List Value} {ty : TypeId} (w : World) (h : StG w s o pre post ty n t R lev lat) (hb : okB n t R) (hl0 : 0 ≤ lev) (hl1 : lev ≤ R * t) (ht0 : 0 ≤ lat) (ht1 : now ≤ 1000000000) (hx0 : 0 ≤ x) (hx1 : x ≤ 1000000) :
    Calls Tryz.prog 29 #[.pointer (some ⟨s, o, none⟩), .int .i64 now, .int .i64 x] w fun e w' => e = .returned (.bool (drwB t (pas n t R lev lat now) x)) ∧ StG w' s o pre post ty n t R (drw t (pas n t R lev lat now) x) (lat1 lat now) ∧ Oth (· = s) w w' := by
  have HT := tell_yes now w h hb hl0 hl1 ht0 ht1
  have hp := pas_room (n := n) (t := t) (R := R) (lat := lat) (now := now) hb.1.1 hl0 hl1
  have HP : Hid (0 ≤ pas n t R lev lat now ∧ pas n t R lev lat now ≤ R * t) := hp
  have HB : Hid (okB n t R) := hb
  clear h hb hp
  go_enter Tryz.func29, Tryz.ntmps29
  go_wp2_with (first | (go_at_call 53; refine HT.mono ?_; rintro e w1 ⟨rfl, hs1, ho1⟩) | (go_at_call 47; refine (draw_any _ _ hs1 HB.out HP.out.1 HP.out.2 hx0 hx1).mono ?_; rintro e w2 ⟨rfl, hs2, ho2⟩))
  go_ret
  exact ⟨rfl, hs2, ho1.trans ho2⟩

theorem new_no (n t R : Int) (w : World) (h : ¬ okB n t R) :
    Calls Tryz.prog 51 #[.agg #[.int .i64 n, .int .i64 t, .int .i64 R]] w fun e w' => e = .returned (.tuple #[.pointer none, .iface 28 (.int .i64 2)]) ∧ Below w.heap.size w w' := by
  have H : Hid (¬ okB n t R) := h
  clear h
  go_enter Tryz.func51, Tryz.ntmps51
  go_wp2_with (go_at_call 66; refine (bcheck_no _ _ _ _ H.out).mono ?_; rintro e w1 ⟨rfl, hb1⟩)
  go_ret2
  exact ⟨rfl, ((Below.refl _ _).alloc (Nat.le_refl _) _).trans (hb1.mono (by simp))⟩
theorem new_yes (n t R : Int) (w : World) (h : okB n t R) :
    Calls Tryz.prog 51 #[.agg #[.int .i64 n, .int .i64 t, .int .i64 R]] w fun e w' => ∃ s, e = .returned (.tuple #[.pointer (some ⟨s, 0, none⟩), .nilIface]) ∧ w.heap.size ≤ s ∧ StAt w' s n t R (R * t) 0 ∧ Below w.heap.size w w' := by
  have H : Hid (okB n t R) := h
  clear h
  go_enter Tryz.func51, Tryz.ntmps51
  go_wp2_with fail
  refine (bcheck_yes _ _ _ _ H.out).mono ?_
  rintro e w1 ⟨rfl, hb1⟩
  have c0 : w1.cell? ⟨w.heap.size, 0, none⟩ = some (.int .i64 n) := by rw [hb1.cell (by simp)]; simp
  have c1 : w1.cell? ⟨w.heap.size, 1, none⟩ = some (.int .i64 t) := by rw [hb1.cell (by simp)]; simp
  have c2 : w1.cell? ⟨w.heap.size, 2, none⟩ = some (.int .i64 R) := by rw [hb1.cell (by simp)]; simp
  have hlt : w.heap.size < w1.heap.size := lt_of_cell c0
  have hB : Below w.heap.size w w1 := ((Below.refl _ _).alloc (Nat.le_refl _) _).trans (hb1.mono (by simp))
  have HS : Hid (StAt (w1.alloc (.cells #[.int .i64 n, .int .i64 t, .int .i64 R, .int .i64 0, .int .i64 0] 99)) w1.heap.size n t R 0 0) := ⟨rfl, heap_alloc_new _ _⟩
  obtain ⟨d0, d1, d2, d3, d4, f3, f4⟩ := HS.out.cells
  have hr := H.out.room
  obtain ⟨hr0, hr1⟩ := hr
  go_wp2_with (go_at_call 57; refine (worth_any _ _ HS.out hr0 hr1).mono ?_; rintro e w' ⟨rfl, rfl⟩)
  go_ret2
  exact ⟨_, rfl, hB.size, ⟨rfl, heap_alloc_new _ _⟩, hB.alloc hB.size _⟩
end Go.Proofs.YtnppmigncjakeaaGreatDoor
