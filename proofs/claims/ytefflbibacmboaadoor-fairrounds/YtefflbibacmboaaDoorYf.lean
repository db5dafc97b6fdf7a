/-
  millraceref.Rounds as millracelaw.played asks them: their model; it agrees with the program's. Conditions: room and quanta within their bounds.
-/
import Derived.Test.YtefflbibacmboaaDoorYe
import Derived.Test.YtefflbibacmboaaDoorPd
namespace Go.Proofs.YtefflbibacmboaaDoor
open Go.RowKit Go.Extern.Stop Go.Stop Go.Extern

theorem mRRnP (a : Addr) (W : World) : (Go.method 314 65 (.pointer (some a)) "Put").run Tryd.prog W = .ok (116, .pointer (some a)) W := by kernel_rfl
theorem mRRnT (a : Addr) (W : World) : (Go.method 314 65 (.pointer (some a)) "Take").run Tryd.prog W = .ok (117, .pointer (some a)) W := by kernel_rfl
theorem mRRnW (a : Addr) (W : World) : (Go.method 314 65 (.pointer (some a)) "When").run Tryd.prog W = .ok (118, .pointer (some a)) W := by kernel_rfl
theorem mRRnA (a : Addr) (W : World) : (Go.method 314 65 (.pointer (some a)) "All").run Tryd.prog W = .ok (115, .pointer (some a)) W := by kernel_rfl
theorem eRRnP (args : Array Value) (W : World) : (callFunc 116 args).run Tryd.prog W = .ok (.enter 116 args) W := enters_of Tryd.func116 (by kernel_rfl) rfl args W
theorem eRRnT (args : Array Value) (W : World) : (callFunc 117 args).run Tryd.prog W = .ok (.enter 117 args) W := enters_of Tryd.func117 (by kernel_rfl) rfl args W
theorem eRRnW (args : Array Value) (W : World) : (callFunc 118 args).run Tryd.prog W = .ok (.enter 118 args) W := enters_of Tryd.func118 (by kernel_rfl) rfl args W
theorem eRRnA (args : Array Value) (W : World) : (callFunc 115 args).run Tryd.prog W = .ok (.enter 115 args) W := enters_of Tryd.func115 (by kernel_rfl) rfl args W
/-- What holds along the steps. -/
def RrI (q : Nat → Int) (n : Nat) (r : RrS) : Prop := ∃ s : RnS, RRel s r ∧ RnI q s ∧ (allF s.fl 16).length ≤ n ∧ SO n s
/-- The reference's Rounds. -/
def RRoundsM (w0 : World) (c : RrC) (q : Nat → Int) : RM where
  σ := RrS
  ty := 65
  rv := .pointer (some ⟨c.b, 0, none⟩)
  fP := 116
  fT := 117
  fW := 118
  fA := 115
  rP := .pointer (some ⟨c.b, 0, none⟩)
  rT := .pointer (some ⟨c.b, 0, none⟩)
  rW := .pointer (some ⟨c.b, 0, none⟩)
  rA := .pointer (some ⟨c.b, 0, none⟩)
  At := fun w F r => ∃ v tv, RrP w0 w c v tv r ∧ ∀ k, F k ↔ (RrG c v tv k ∨ TB c.px c.m k)
  put := fun r _ x => putY c.room r x
  take := fun r _ => takeY q r
  when := fun r now => (r, now, !r.L.isEmpty)
  all := fun r => r.L
  inv := fun _ n r => RrI q n r
theorem RrI.facts {q : Nat → Int} {n : Nat} {r : RrS} (h : RrI q n r) : r.L.length ≤ n ∧ (∀ y ∈ r.L, y.ok = true) ∧ r.tn.length ≤ 16 ∧ RnI q (toS r) ∧ (r.L.map Hd.n).Pairwise (· < ·) := by
  obtain ⟨s, hr, hI, hl, hS⟩ := h
  have hp := hr.perm.length_eq
  have e := hr.eq
  subst e
  refine ⟨by omega, fun y hy => ?_, nodup_le hI.tin hI.tnd, hI, hr.srt⟩
  have h1 := hr.flow y hy
  obtain ⟨j, hj⟩ : ∃ j : Nat, y.f = j := ⟨y.f.toNat, by omega⟩
  exact (hI.ok j (by omega) y (flw_mem.2 ⟨hy, hj⟩)).1
theorem rroundsM_fine (w0 : World) (c : RrC) (q : Nat → Int) (hQ : RrQ c q) : (RRoundsM w0 c q).Fine where
  kept := by
    rintro w w' F s ⟨v, tv, h, hF⟩ hk
    exact ⟨v, tv, h.kept (fun k hk' => hk k ((hF k).2 hk')), hF⟩
  low := by
    rintro w F s ⟨v, tv, h, hF⟩ k hk
    exact ((hF k).1 hk).elim h.low h.tlt
  mP := mRRnP ⟨c.b, 0, none⟩
  mT := mRRnT ⟨c.b, 0, none⟩
  mW := mRRnW ⟨c.b, 0, none⟩
  mA := mRRnA ⟨c.b, 0, none⟩
  eP := eRRnP
  eT := eRRnT
  eW := eRRnW
  eA := eRRnA
  cP := by
    rintro w F (r : RrS) t n now x ⟨v, tv, h, hF⟩ (hI : RrI q n r) ht0 ht1 ht2 hok hxa hxn hn
    obtain ⟨h1, h2, h3, h4, h5⟩ := hI.facts
    have hxf := ok_flow hok
    refine (rrdput_any now x w h (by omega) (by omega) hxf.1 (by omega)).mono ?_
    rintro e w' ⟨u, v', tv', rfl, hu, hn, hO⟩
    refine ⟨u, fun k => RrG c v' tv' k ∨ TB c.px c.m k, rfl, hu, ⟨v', tv', hO.pos, fun k => Iff.rfl⟩, fun k hk => ?_, fun k hk => Or.inr (hn k hk), hO.ot.mono (fun k _ h => (hF k).2 (Or.inl h))⟩
    rcases hk with hk | hk
    · exact (hO.own k hk).imp_left (fun e => (hF k).2 (Or.inl e))
    · exact Or.inl ((hF k).2 (Or.inr hk))
  iP := by
    rintro (r : RrS) t n now x ⟨s, hr, hI, hl, hS⟩ ht0 ht1 ht2 hok hxa hxn hn
    obtain ⟨k1, k2⟩ := rput_rel (room := c.room) hr hS hok hxn
    obtain ⟨⟨i1, i2, i3⟩, i4⟩ := (roundsM_fine 0 c.room q).iP (s := s) (t := t) now x ⟨hI, hl, hS⟩ ht0 ht1 ht2 hok hxa hxn hn
    have i4' : (putW c.room s x).2.length ≤ 1000000 := i4
    rw [k1] at i4'
    exact ⟨⟨(putW c.room s x).1, k2, i1, i2, i3⟩, i4'⟩
  cT := by
    rintro w F (r : RrS) t n now ⟨v, tv, h, hF⟩ (hI : RrI q n r) ht0 ht1 ht2 hn
    obtain ⟨h1, h2, h3, h4, h5⟩ := hI.facts
    refine (rrdtake_any now w h h4 hQ (by omega) h5).mono ?_
    rintro e w' ⟨rfl, v', tv', hO⟩
    have e0 : (takeY q r).2.1 = [] := by
      rcases takeW_fl q (mu (toS r) + 1) (toS r) (Nat.lt_succ_self _) with ⟨_, _, g⟩ | ⟨_, _, _, _, _, _, g⟩
      · exact g
      · show (takeW q (toS r)).2.1 = []; rw [g]
    refine ⟨.slice none 0 0, fun k => RrG c v' tv' k ∨ TB c.px c.m k, rfl, by show Ps w' _ (takeY q r).2.1; rw [e0]; exact Ps.nil _, ⟨v', tv', hO.pos, fun k => Iff.rfl⟩, fun k hk => ?_, fun k hk => by simp [Value.ownBlock] at hk, hO.ot.mono (fun k _ h => (hF k).2 (Or.inl h))⟩
    rcases hk with hk | hk
    · exact (hO.own k hk).imp_left (fun e => (hF k).2 (Or.inl e))
    · exact Or.inl ((hF k).2 (Or.inr hk))
  iT := by
    rintro (r : RrS) t n now ⟨s, hr, hI, hl, hS⟩ ht0 ht1 ht2 hn
    obtain ⟨k1, k2⟩ := rtake_rel (q := q) hr
    obtain ⟨⟨i1, i2, i3⟩, i4⟩ := (roundsM_fine 0 c.room q).iT (s := s) (t := t) now ⟨hI, hl, hS⟩ ht0 ht1 ht2 hn
    have i4' : (takeW q s).2.1.length ≤ 1000000 := i4
    rw [k1] at i4'
    exact ⟨⟨(takeW q s).1, k2, i1, i2, i3⟩, i4'⟩
  cW := by
    rintro w F (r : RrS) t n now ⟨v, tv, h, hF⟩ hI ht0 ht1 ht2 hn
    refine (rrwhen_any now w h).mono ?_
    rintro e w' ⟨rfl, k, rfl⟩
    exact ⟨F, rfl, ⟨v, tv, h.drewN k, hF⟩, fun k hk => Or.inl hk, (Ot.refl _ _).drewN k⟩
  iW := by
    rintro (r : RrS) t n now hI ht0 ht1 ht2 hn
    exact hI
  cA := by
    rintro w F (r : RrS) t n ⟨v, tv, h, hF⟩ (hI : RrI q n r) hn
    obtain ⟨h1, h2, h3, h4, h5⟩ := hI.facts
    refine (rrall_any w h).mono ?_
    rintro e w' ⟨rfl, rfl⟩
    exact ⟨v, rfl, h.row, ⟨by show r.L.length ≤ _; omega, fun y hy => by have := ok_len (h2 y hy); omega⟩, Below.refl _ _⟩
theorem rounds_agree (w0 : World) (b : Nat) (c : RrC) (q : Nat → Int) : Agree (RoundsM b c.room q) (RRoundsM w0 c q) (fun (s : RnS) (r : RrS) => RRel s r) where
  put := by
    rintro (s : RnS) (r : RrS) t n now x h ⟨hI, hl, hS⟩ _ _ _ _ hok _ hxn _
    exact rput_rel h hS hok hxn
  take := by
    rintro (s : RnS) (r : RrS) t n now h ⟨hI, hl, hS⟩ _ _ _ _ _
    exact rtake_rel h
  when := by
    rintro (s : RnS) (r : RrS) t n now h ⟨hI, hl, hS⟩ _ _ _ _ _
    exact ⟨rwhen_rel h hI, fun _ => rfl, h⟩
  len := by
    rintro (s : RnS) (r : RrS) t n h ⟨hI, hl, hS⟩ _
    have hp := h.perm
    exact ⟨by show ((allF s.fl 16).length : Int) = (r.L.length : Int); rw [hp.length_eq], sumL_perm hp⟩
end Go.Proofs.YtefflbibacmboaaDoor
