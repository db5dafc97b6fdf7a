/-
  bucket.State where it is known up to being told the time meanwhile: Has, Take, When, New. Conditions: a bucket that may be, a level within its room, times up to 20000000.
-/
import Derived.Test.YtpgdocmpbeabpaaDoorU6
import Derived.Test.YtpgdocmpbeabpaaDoorSg
namespace Go.Proofs.YtpgdocmpbeabpaaDoor
open Go.RowKit Go.Extern.Stop Go.Stop Go.Extern

theorem Oth.ot {S : Nat → Prop} {w w' : World} (h : Oth S w w') : Ot S w w' := ⟨h.os, h.tape, h.output, h.size, h.block⟩
theorem lat1_again {lat a now : Int} (h : a ≤ now) : lat1 (lat1 lat a) now = lat1 lat now := by
  unfold lat1
  split <;> split <;> (try split) <;> omega
theorem pas_again {n t R lev lat a now : Int} (hn : 1 ≤ n) (h : a ≤ now) : pas n t R (pas n t R lev lat a) (lat1 lat a) now = pas n t R lev lat now := by
  by_cases h1 : a ≤ lat
  · rw [show pas n t R lev lat a = lev by unfold pas; rw [if_pos h1], show lat1 lat a = lat by unfold lat1; rw [if_pos h1]]
  · rw [show lat1 lat a = a by unfold lat1; rw [if_neg h1]]
    by_cases h2 : now = a
    · subst h2
      have e : ∀ V : Int, pas n t R V now now = V := fun V => by unfold pas; rw [if_pos (Int.le_refl _)]
      rw [e]
    · have e : (now - lat) * n = (a - lat) * n + (now - a) * n := by
        rw [← Int.add_mul, show a - lat + (now - a) = now - lat by omega]
      have p1 : 0 ≤ (a - lat) * n := Int.mul_nonneg (by omega) (by omega)
      have p2 : 0 ≤ (now - a) * n := Int.mul_nonneg (by omega) (by omega)
      have e1 : pas n t R lev lat now = if lev + (now - lat) * n ≤ R * t then lev + (now - lat) * n else R * t := by unfold pas; rw [if_neg (by omega)]
      have e2 : pas n t R lev lat a = if lev + (a - lat) * n ≤ R * t then lev + (a - lat) * n else R * t := by unfold pas; rw [if_neg h1]
      have e3 : ∀ V : Int, pas n t R V a now = if V + (now - a) * n ≤ R * t then V + (now - a) * n else R * t := fun V => by unfold pas; rw [if_neg (by omega)]
      rw [e3, e2, e1, e]
      generalize (a - lat) * n = u at *
      generalize (now - a) * n = v at *
      generalize R * t = C at *
      by_cases g1 : lev + u ≤ C
      · rw [if_pos g1, Int.add_assoc]
      · rw [if_neg g1, if_neg (show ¬ lev + (u + v) ≤ C by omega)]
        split <;> omega
/-- A bucket's state, told the time meanwhile, up to one. -/
def BkT (w : World) (b : Nat) (n t R lev lat tm : Int) : Prop := ∃ a, a ≤ tm ∧ StAt w b n t R (pas n t R lev lat a) (lat1 lat a)
theorem BkT.later {w : World} {b : Nat} {n t R lev lat tm tm' : Int} (h : BkT w b n t R lev lat tm) (ht : tm ≤ tm') : BkT w b n t R lev lat tm' := by
  obtain ⟨a, h1, h2⟩ := h
  exact ⟨a, by omega, h2⟩
theorem BkT.lt {w : World} {b : Nat} {n t R lev lat tm : Int} (h : BkT w b n t R lev lat tm) : b < w.heap.size := by
  obtain ⟨a, _, h2⟩ := h
  exact StG.lt h2
theorem BkT.same {w w' : World} {b : Nat} {n t R lev lat tm : Int} (h : BkT w b n t R lev lat tm) (hb : w'.heap[b]? = w.heap[b]?) : BkT w' b n t R lev lat tm := by
  obtain ⟨a, h1, h2⟩ := h
  exact ⟨a, h1, StG.same h2 hb⟩
theorem StAt.bkt {w : World} {b : Nat} {n t R lev lat tm : Int} (h : StAt w b n t R lev lat) (ht : lat ≤ tm) : BkT w b n t R lev lat tm := by
  refine ⟨lat, ht, ?_⟩
  rw [show pas n t R lev lat lat = lev by unfold pas; rw [if_pos (Int.le_refl _)], show lat1 lat lat = lat by unfold lat1; rw [if_pos (Int.le_refl _)]]
  exact h
/-- What is so of a bucket and its level. -/
structure BkOk (n t R lev lat tm : Int) : Prop where
  ok : okB n t R
  l0 : 0 ≤ lev
  l1 : lev ≤ R * t
  t0 : 0 ≤ lat
  t1 : lat ≤ tm
theorem BkOk.told {n t R lev lat tm : Int} (h : BkOk n t R lev lat tm) (a : Int) (ha : a ≤ tm) : (0 ≤ pas n t R lev lat a ∧ pas n t R lev lat a ≤ R * t) ∧ 0 ≤ lat1 lat a ∧ lat1 lat a ≤ tm := by
  refine ⟨pas_room h.ok.1.1 h.l0 h.l1, ?_⟩
  have := h.t0
  have := h.t1
  unfold lat1
  split <;> omega
theorem BkOk.later {n t R lev lat tm tm' : Int} (h : BkOk n t R lev lat tm) (ht : tm ≤ tm') : BkOk n t R lev lat tm' := ⟨h.ok, h.l0, h.l1, h.t0, by have := h.t1; omega⟩
/-- How many bytes are in it. -/
def hasB (n t R lev lat now : Int) : Int := pas n t R lev lat now / t
theorem hasB_le {n t R lev lat tm now x : Int} (h : BkOk n t R lev lat tm) : x ≤ hasB n t R lev lat now ↔ x * t ≤ pas n t R lev lat now := by
  unfold hasB
  exact Int.le_ediv_iff_mul_le (by have := h.ok.2.1; omega)
theorem hasB_bd {n t R lev lat tm now : Int} (h : BkOk n t R lev lat tm) : 0 ≤ hasB n t R lev lat now ∧ hasB n t R lev lat now ≤ R := by
  have hp := pas_room (n := n) (t := t) (R := R) (lat := lat) (now := now) h.ok.1.1 h.l0 h.l1
  have ht : 0 < t := by have := h.ok.2.1; omega
  unfold hasB
  refine ⟨Int.ediv_nonneg hp.1 (by omega), ?_⟩
  have := Int.ediv_le_ediv ht hp.2
  rwa [Int.mul_ediv_cancel _ (by omega)] at this
theorem has_raw {n t R lev lat : Int} (now : Int) {s o : Nat} {pre post : List Value} {ty : TypeId} (w : World) (h : StG w s o pre post ty n t R lev lat) (hb : okB n t R) (hl0 : 0 ≤ lev) (hl1 : lev ≤ R * t) (ht0 : 0 ≤ lat) (ht1 : now ≤ 1000000000) :
    Calls Tryd.prog 45 #[.pointer (some ⟨s, o, none⟩), .int .i64 now] w fun e w' => e = .returned (.int .i64 (hasB n t R lev lat now)) ∧ StG w' s o pre post ty n t R (pas n t R lev lat now) (lat1 lat now) ∧ Oth (· = s) w w' := by
  have HT := tell_yes now w h hb hl0 hl1 ht0 ht1
  have hp := pas_room (n := n) (t := t) (R := R) (lat := lat) (now := now) hb.1.1 hl0 hl1
  have hr := hb.room
  have HV : Hid (hasB n t R lev lat now = (pas n t R lev lat now) / t) := rfl
  have htp : (1 ≤ t ∧ t ≤ 1000000) := hb.2.1
  generalize pas n t R lev lat now = V at *
  have HD : Hid (V.tdiv t = V / t) := Int.tdiv_eq_ediv_of_nonneg hp.1
  have hq0 : 0 ≤ V / t := Int.ediv_nonneg hp.1 (by omega)
  have hq1 : V / t ≤ V := Int.ediv_le_self _ hp.1
  have hz : (t == 0) = false := by simp; omega
  clear h hb hl0 hl1
  go_enter Tryd.func45, Tryd.ntmps45
  go_wp2_with fail
  refine HT.mono ?_
  rintro e w1 ⟨rfl, hs1, ho1⟩
  obtain ⟨c0, c1, c2, c3, c4, _, _⟩ := hs1.cells
  have HS : Hid (StG w1 s o pre post ty n t R V (lat1 lat now)) := hs1
  clear hs1 HT
  go_wp2
  go_quiet (fail)
  go_wp2
  go_ret
  exact ⟨by rw [HV.out, ← HD.out]; rfl, HS.out.drewN _, ho1.drewN _⟩
theorem has_bk {n t R lev lat tm : Int} (now : Int) {b : Nat} (w : World) (h : BkT w b n t R lev lat tm) (hb : BkOk n t R lev lat tm) (ht : tm ≤ now) (ht1 : now ≤ 1000000000) :
    Calls Tryd.prog 45 #[.pointer (some ⟨b, 0, none⟩), .int .i64 now] w fun e w' => e = .returned (.int .i64 (hasB n t R lev lat now)) ∧ BkT w' b n t R lev lat now ∧ Ot (· = b) w w' := by
  obtain ⟨a, ha, hs⟩ := h
  obtain ⟨⟨p0, p1⟩, q0, _⟩ := hb.told a ha
  refine (has_raw now w hs hb.ok p0 p1 q0 ht1).mono ?_
  rintro e w' ⟨rfl, h1, h2⟩
  have e1 := pas_again (n := n) (t := t) (R := R) (lev := lev) (lat := lat) (a := a) (now := now) hb.ok.1.1 (by omega)
  refine ⟨?_, ⟨now, Int.le_refl _, ?_⟩, h2.ot⟩
  · unfold hasB
    rw [e1]
  · rw [e1, lat1_again (by omega)] at h1
    exact h1
theorem take_bk {n t R lev lat tm : Int} (now x : Int) {b : Nat} (w : World) (h : BkT w b n t R lev lat tm) (hb : BkOk n t R lev lat tm) (ht : tm ≤ now) (ht1 : now ≤ 1000000000) (hx0 : 0 ≤ x) (hx1 : x ≤ 1000000) :
    Calls Tryd.prog 25 #[.pointer (some ⟨b, 0, none⟩), .int .i64 now, .int .i64 x] w fun e w' => e = .returned (.bool (drwB t (pas n t R lev lat now) x)) ∧ StAt w' b n t R (drw t (pas n t R lev lat now) x) (lat1 lat now) ∧ Ot (· = b) w w' := by
  obtain ⟨a, ha, hs⟩ := h
  obtain ⟨⟨p0, p1⟩, q0, _⟩ := hb.told a ha
  refine (take_yes now x w hs hb.ok p0 p1 q0 ht1 hx0 hx1).mono ?_
  rintro e w' ⟨rfl, h1, h2⟩
  have e1 := pas_again (n := n) (t := t) (R := R) (lev := lev) (lat := lat) (a := a) (now := now) hb.ok.1.1 (by omega)
  rw [e1, lat1_again (by omega)] at h1
  exact ⟨by rw [e1], h1, h2.ot⟩
theorem when_bk {n t R lev lat tm : Int} (now x : Int) {b : Nat} (w : World) (h : BkT w b n t R lev lat tm) (hb : BkOk n t R lev lat tm) (ht : tm ≤ now) (ht1 : now ≤ 1000000000) (hx0 : 0 ≤ x) :
    Calls Tryd.prog 86 #[.pointer (some ⟨b, 0, none⟩), .int .i64 now, .int .i64 x] w fun e w' => e = .returned (.tuple #[.int .i64 (if x ≤ R then whn n t (pas n t R lev lat now) (lat1 lat now) x else 0), .bool (decide (x ≤ R))]) ∧ BkT w' b n t R lev lat now ∧ Ot (· = b) w w' := by
  obtain ⟨a, ha, hs⟩ := h
  obtain ⟨⟨p0, p1⟩, q0, q1⟩ := hb.told a ha
  have e1 := pas_again (n := n) (t := t) (R := R) (lev := lev) (lat := lat) (a := a) (now := now) hb.ok.1.1 (by omega)
  by_cases hx : x ≤ R
  · refine (when_yes now x w hs hb.ok p0 p1 q0 (by omega) ht1 hx0 hx).mono ?_
    rintro e w' ⟨rfl, h1, h2⟩
    rw [e1, lat1_again (by omega)] at h1 ⊢
    exact ⟨by rw [if_pos hx, decide_eq_true hx], ⟨now, Int.le_refl _, h1⟩, h2.ot⟩
  · refine (when_no now x w hs hb.ok p0 p1 q0 ht1 hx0 (by omega)).mono ?_
    rintro e w' ⟨rfl, h1, h2⟩
    rw [e1, lat1_again (by omega)] at h1
    exact ⟨by rw [if_neg hx, decide_eq_false hx], ⟨now, Int.le_refl _, h1⟩, h2.ot⟩
end Go.Proofs.YtpgdocmpbeabpaaDoor
