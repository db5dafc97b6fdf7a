/-
  millracebig: QuoRem, Uint64, Int64 of whole numbers: what lies behind the call, and what stays. Conditions: numbers below 2^64, a divisor that isn't 0.
-/
import Derived.Test.YtnppmigncjakeaaGreatDoorGe
namespace Go.Proofs.YtnppmigncjakeaaGreatDoor
open Go.RowKit Go.Deep

theorem quo_sign (x y : Int) : (if (!(decide (x < 0) == decide (y < 0))) = true then -((x.natAbs / y.natAbs : Nat) : Int) else ((x.natAbs / y.natAbs : Nat) : Int)) = x.tdiv y := by
  rw [Int.ofNat_tdiv]
  have e : ∀ c : Bool, c = (!(decide (x < 0) == decide (y < 0))) → (if c = true then -((x.natAbs : Int).tdiv (y.natAbs : Int)) else (x.natAbs : Int).tdiv (y.natAbs : Int)) = x.tdiv y := ?_
  · exact e _ rfl
  intro c hc
  by_cases hx : x < 0 <;> by_cases hy : y < 0 <;> simp [hx, hy] at hc <;> subst hc
  · rw [if_neg (by simp), show ((x.natAbs : Nat) : Int) = -x by omega, show ((y.natAbs : Nat) : Int) = -y by omega, Int.neg_tdiv, Int.tdiv_neg, Int.neg_neg]
  · rw [if_pos rfl, show ((x.natAbs : Nat) : Int) = -x by omega, show ((y.natAbs : Nat) : Int) = y by omega, Int.neg_tdiv, Int.neg_neg]
  · rw [if_pos rfl, show ((x.natAbs : Nat) : Int) = x by omega, show ((y.natAbs : Nat) : Int) = -y by omega, Int.tdiv_neg, Int.neg_neg]
  · rw [if_neg (by simp), show ((x.natAbs : Nat) : Int) = x by omega, show ((y.natAbs : Nat) : Int) = y by omega]
theorem rem_sign (x y : Int) : (if decide (x < 0) = true then -((x.natAbs % y.natAbs : Nat) : Int) else ((x.natAbs % y.natAbs : Nat) : Int)) = x.tmod y := by
  rw [Int.ofNat_tmod]
  have e : ∀ z : Int, z.tmod (y.natAbs : Int) = z.tmod y := fun z => by
    rcases Int.natAbs_eq y with h | h
    · rw [← h]
    · rw [show ((y.natAbs : Nat) : Int) = -y by omega, Int.tmod_neg]
  rw [e]
  by_cases hx : x < 0
  · rw [if_pos (by simpa using hx), show ((x.natAbs : Nat) : Int) = -x by omega, Int.neg_tmod, Int.neg_neg]
  · rw [if_neg (by simpa using hx), show ((x.natAbs : Nat) : Int) = x by omega]

/-- Two cells. -/
def PairAt (xb xo yb yo : Nat) (p q : Value) (w : World) : Prop := w.cell? ⟨xb, xo, none⟩ = some p ∧ w.cell? ⟨yb, yo, none⟩ = some q
theorem PairAt.below {xb xo yb yo : Nat} {p q : Value} {w w' : World} (h : PairAt xb xo yb yo p q w) (hb : Below w.heap.size w w') : PairAt xb xo yb yo p q w' :=
  ⟨(hb.cell (lt_of_cell h.1)).trans h.1, (hb.cell (lt_of_cell h.2)).trans h.2⟩

set_option maxHeartbeats 4000000 in
theorem quoRem_any (b o xb xo yb yo mb mo : Nat) (x y : Int) (w : World) (hs : Slot w b o) (hm : Slot w mb mo) (hx : IntAt w xb xo x) (hy : IntAt w yb yo y) (lx : x.natAbs < 18446744073709551616) (y0 : y ≠ 0) (nb : b ≠ mb) :
    Calls Tryz.prog 108 #[.pointer (some ⟨b, o, none⟩), .pointer (some ⟨xb, xo, none⟩), .pointer (some ⟨yb, yo, none⟩), .pointer (some ⟨mb, mo, none⟩)] w fun e w' =>
      e = .returned (.tuple #[.pointer (some ⟨b, o, none⟩), .pointer (some ⟨mb, mo, none⟩)]) ∧ IntAt w' b o (x.tdiv y) ∧ IntAt w' mb mo (x.tmod y) ∧ Slot w' b o ∧ Slot w' mb mo ∧ ∃ w1, Upd b o w w1 ∧ Slot w1 mb mo ∧ Upd mb mo w1 w' := by
  have HS : Hid (Slot w b o ∧ Slot w mb mo ∧ b ≠ mb) := ⟨hs, hm, nb⟩
  have HL : Hid (0 < y.natAbs ∧ x.natAbs < 18446744073709551616) := ⟨by omega, lx⟩
  obtain ⟨c0, v, c1, hn⟩ := hx
  obtain ⟨x0, m, c, rfl, _, _⟩ := hn.form
  obtain ⟨d0, v', d1, hn'⟩ := hy
  obtain ⟨y1, m', c', rfl, _, _⟩ := hn'.form
  have HN : Hid (NatAt w (.slice x0 m c) x.natAbs ∧ NatAt w (.slice y1 m' c') y.natAbs) := ⟨hn, hn'⟩
  have HT : Hid (PairAt xb (xo + 1) yb (yo + 1) (.slice x0 m c) (.slice y1 m' c') w) := ⟨c1, d1⟩
  clear hn hn' hs hm lx y0 nb
  go_enter Tryz.func108, Tryz.ntmps108
  go_wp2_with fail
  go_quiet (fail)
  clear c1 d1 c0 d0
  go_wp2_with fail
  go_region_held3 (fun w' => w'.cell? ⟨xb, xo + 1, none⟩ = some (.slice x0 m c) ∧ w'.cell? ⟨yb, yo + 1, none⟩ = some (.slice y1 m' c')) (first | exact HT.out | exact S1.out)
    (first | (go_at_call 104; refine (div_any _ (by exact HN.out.1) (by exact HN.out.2) (by exact HL.out.1) (by exact HL.out.2)).mono ?_; rintro e w1 ⟨q1, r1, rfl, hq1, hr1, hb1⟩; have S1 : Hid (PairAt xb (xo + 1) yb (yo + 1) (.slice x0 m c) (.slice y1 m' c') w1) := PairAt.below (w := w.drewN (nq + 1)) HT.out hb1))
  have HQ : Hid (NatAt w1 q1 (x.natAbs / y.natAbs) ∧ NatAt w1 r1 (x.natAbs % y.natAbs) ∧ Below w.heap.size w w1) := ⟨hq1, hr1, Below.trans (b := w.drewN (nq + 1)) ⟨rfl, rfl, rfl, Nat.le_refl _, fun _ _ => rfl⟩ hb1⟩
  clear hq1 hr1 hb1
  go_wp2_with fail
  refine (give_any b o _ _ (HS.out.1.below HQ.out.2.2) HQ.out.1).mono ?_
  rintro e w2 ⟨rfl, hi2, hs2, hu2⟩
  have HM : Hid (Slot w2 mb mo ∧ NatAt w2 r1 (x.natAbs % y.natAbs) ∧ IntAt w2 b o (x.tdiv y) ∧ Slot w2 b o ∧ Upd b o w w2) := by
    refine ⟨(HS.out.2.1.below HQ.out.2.2).upd hu2 (Or.inl (Ne.symm HS.out.2.2)), HQ.out.2.1.upd (HS.out.1.below HQ.out.2.2) hu2, ?_, hs2, (Upd.of_below HQ.out.2.2).trans hu2⟩
    rw [quo_sign] at hi2
    exact hi2
  clear hi2 hs2 hu2
  go_wp2_with fail
  refine (give_any mb mo _ _ HM.out.1 HM.out.2.1).mono ?_
  rintro e w3 ⟨rfl, hi3, hs3, hu3⟩
  have HI : Hid (IntAt w3 b o (x.tdiv y) ∧ IntAt w3 mb mo (x.tmod y) ∧ Slot w3 b o) := by
    refine ⟨HM.out.2.2.1.upd HM.out.1 hu3 (Or.inl HS.out.2.2), ?_, HM.out.2.2.2.1.upd hu3 (Or.inl HS.out.2.2)⟩
    rw [rem_sign] at hi3
    exact hi3
  clear hi3
  go_wp2
  go_ret2
  exact ⟨rfl, HI.out.1, HI.out.2.1, HI.out.2.2, hs3, w2, HM.out.2.2.2.2, HM.out.1, hu3⟩

set_option maxHeartbeats 1000000 in
theorem uint64_any (zb zo : Nat) (z : Int) (w : World) (h : IntAt w zb zo z) (hn : z.natAbs < 18446744073709551616) :
    Calls Tryz.prog 101 #[.pointer (some ⟨zb, zo, none⟩)] w fun e w' => e = .returned (.int .u64 (z.natAbs : Int)) ∧ w' = w := by
  obtain ⟨_, v, d1, h⟩ := h
  generalize z.natAbs = n at h hn ⊢
  obtain ⟨ws, ⟨x, c, rfl, hlc, _, hx⟩, cx, rfl, lx⟩ := h
  rcases canon_two cx hn with ⟨rfl, hv⟩ | ⟨u, rfl, hu0, hu1, hv⟩ | ⟨u, q, rfl, hu1, hq0, hq1, hv⟩
  · go_enter Tryz.func101, Tryz.ntmps101
    go_wp2
    go_ret
    exact ⟨rfl, rfl⟩
  · rcases hx with hx | ⟨b, o, rfl, hx⟩
    · cases hx
    have c0 := hx 0 u rfl
    rw [Nat.add_zero] at c0
    have HV : Hid (val [u] = u) := hv
    clear hv hx
    go_enter Tryz.func101, Tryz.ntmps101
    go_wp2
    go_ret
    exact ⟨by rw [HV.out]; rfl, rfl⟩
  · rcases hx with hx | ⟨b, o, rfl, hx⟩
    · cases hx
    have c0 := hx 0 u rfl
    have c1 := hx 1 q rfl
    rw [Nat.add_zero] at c0
    have HV : Hid (val [u, q] = u + 4294967296 * q) := hv
    clear hv hx
    go_enter Tryz.func101, Tryz.ntmps101
    go_wp2
    go_ret
    refine ⟨?_, rfl⟩
    have e1 : (q : Int) * 4294967296 = ((q * 4294967296 : Nat) : Int) := by simp
    have e2 : bits .or .u64 (u : Int) ((q : Int) * 4294967296) = ((val [u, q] : Nat) : Int) := by
      rw [e1, bits_or_u64_nat u (q * 4294967296) (by omega) (by omega), or_words u q hu1, HV.out]
      omega
    show Ending.returned (.int .u64 (bits .or .u64 (u : Int) ((q : Int) * 4294967296))) = _
    rw [e2]

set_option maxHeartbeats 1000000 in
theorem int64_any (zb zo : Nat) (z : Int) (w : World) (h : IntAt w zb zo z) (hn : z.natAbs < 9223372036854775808) :
    Calls Tryz.prog 89 #[.pointer (some ⟨zb, zo, none⟩)] w fun e w' => e = .returned (.int .i64 z) ∧ w' = w := by
  have HZ : Hid (IntAt w zb zo z ∧ z.natAbs < 18446744073709551616) := ⟨h, by omega⟩
  obtain ⟨c0, _⟩ := h
  have e1 : IntKind.i64.wrap (z.natAbs : Int) = (z.natAbs : Int) := by rw [IntKind.wrap_i64]; omega
  by_cases hz : z < 0
  · have e2 : IntKind.i64.wrap (-(z.natAbs : Int)) = z := by rw [IntKind.wrap_i64]; omega
    rw [show decide (z < 0) = true by simpa using hz] at c0
    clear hn hz
    go_enter Tryz.func89, Tryz.ntmps89
    go_wp2_with fail
    refine (uint64_any zb zo z _ HZ.out.1 HZ.out.2).mono ?_
    rintro e w1 ⟨rfl, rfl⟩
    go_wp2
    go_ret
    exact ⟨rfl, rfl⟩
  · have e2 : (z.natAbs : Int) = z := by omega
    rw [show decide (z < 0) = false by simpa using hz] at c0
    have HE : Hid ((z.natAbs : Int) = z) := e2
    clear hn hz e2
    go_enter Tryz.func89, Tryz.ntmps89
    go_wp2_with fail
    refine (uint64_any zb zo z _ HZ.out.1 HZ.out.2).mono ?_
    rintro e w1 ⟨rfl, rfl⟩
    go_wp2
    go_ret
    exact ⟨by rw [HE.out]; rfl, rfl⟩
end Go.Proofs.YtnppmigncjakeaaGreatDoor
