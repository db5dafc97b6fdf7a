/-
  millraceref.Hashed as millracelaw.played asks it: its model; it agrees with the program's. Conditions: its numbers within their bounds.
-/
import Derived.Test.YtejomfmbhifeaaaDoorXe
import Derived.Test.YtejomfmbhifeaaaDoorPd
namespace Go.Proofs.YtejomfmbhifeaaaDoor
open Go.RowKit Go.Extern.Stop Go.Stop Go.Extern

theorem mRHaP (a : Addr) (W : World) : (Go.method 314 73 (.pointer (some a)) "Put").run Tryd.prog W = .ok (128, .pointer (some a)) W := by kernel_rfl
theorem mRHaT (a : Addr) (W : World) : (Go.method 314 73 (.pointer (some a)) "Take").run Tryd.prog W = .ok (129, .pointer (some a)) W := by kernel_rfl
theorem mRHaW (a : Addr) (W : World) : (Go.method 314 73 (.pointer (some a)) "When").run Tryd.prog W = .ok (130, .pointer (some a)) W := by kernel_rfl
theorem mRHaA (a : Addr) (W : World) : (Go.method 314 73 (.pointer (some a)) "All").run Tryd.prog W = .ok (127, .pointer (some a)) W := by kernel_rfl
theorem eRHaP (args : Array Value) (W : World) : (callFunc 128 args).run Tryd.prog W = .ok (.enter 128 args) W := enters_of Tryd.func128 (by kernel_rfl) rfl args W
theorem eRHaT (args : Array Value) (W : World) : (callFunc 129 args).run Tryd.prog W = .ok (.enter 129 args) W := enters_of Tryd.func129 (by kernel_rfl) rfl args W
theorem eRHaW (args : Array Value) (W : World) : (callFunc 130 args).run Tryd.prog W = .ok (.enter 130 args) W := enters_of Tryd.func130 (by kernel_rfl) rfl args W
theorem eRHaA (args : Array Value) (W : World) : (callFunc 127 args).run Tryd.prog W = .ok (.enter 127 args) W := enters_of Tryd.func127 (by kernel_rfl) rfl args W
/-- What holds along the steps. -/
def RhI (p : HaC) (n : Nat) (r : RhS) : Prop := ∃ s : HaS, HRel p s r ∧ HaI p s ∧ (allF s.fl 64).length ≤ n ∧ SH n s
/-- The reference's Hashed in block b. -/
def RHashM (b : Nat) (p : HaC) : RM where
  σ := RhS
  ty := 73
  rv := .pointer (some ⟨b, 0, none⟩)
  fP := 128
  fT := 129
  fW := 130
  fA := 127
  rP := .pointer (some ⟨b, 0, none⟩)
  rT := .pointer (some ⟨b, 0, none⟩)
  rW := .pointer (some ⟨b, 0, none⟩)
  rA := .pointer (some ⟨b, 0, none⟩)
  At := fun w F r => ∃ v tv, RhP w b p v tv r ∧ ∀ k, F k ↔ RhF b v tv k
  put := fun r _ x => putX p r x
  take := fun r _ => takeX p r
  when := fun r now => (r, now, !r.L.isEmpty)
  all := fun r => r.L
  inv := fun _ n r => RhI p n r
theorem RhI.facts {p : HaC} {n : Nat} {r : RhS} (hm0 : 1 ≤ p.many) (hm1 : p.many ≤ 64) (h : RhI p n r) : r.L.length ≤ n ∧ (∀ y ∈ r.L, y.ok = true) ∧ r.tn.length ≤ 64 ∧ ∀ k ∈ r.tn, ofL p r.L k ≠ [] := by
  obtain ⟨s, hr, hI, hl, hS⟩ := h
  refine ⟨by have := (hr.perm hm0 hm1).length_eq; omega, fun y hy => ?_, by rw [← hr.tn]; exact nodup64 hI.tin hI.tnd, fun k hk => ?_⟩
  · have h1 := whereN_bd hm0 y.f
    exact (hI.ok _ (by omega) y (hr.in hm0 hm1 hy)).1
  · rw [← hr.tn] at hk
    have h1 := hI.tin k hk
    obtain ⟨f, rfl⟩ : ∃ f : Nat, k = f := ⟨k.toNat, by omega⟩
    rw [← hr.fl f (by omega)]
    exact (hI.tfl f (by omega)).1 hk
theorem RhI.bd {p : HaC} {n : Nat} {r : RhS} (hm0 : 1 ≤ p.many) (hm1 : p.many ≤ 64) (hs0 : 0 ≤ p.salt) (hs1 : p.salt ≤ 1000000) (h : RhI p n r) (hn : n ≤ 1001) : RhB p r.L := by
  obtain ⟨h1, h2, _, _⟩ := h.facts hm0 hm1
  exact ⟨hm0, hm1, hs0, hs1, by omega, fun y hy => by have := ok_flow (h2 y hy); omega⟩
theorem rhashM_fine (b : Nat) (p : HaC) (hm0 : 1 ≤ p.many) (hm1 : p.many ≤ 64) (hs0 : 0 ≤ p.salt) (hs1 : p.salt ≤ 1000000) : (RHashM b p).Fine where
  kept := by
    rintro w w' F s ⟨v, tv, h, hF⟩ hk
    exact ⟨v, tv, h.kept (fun k hk' => hk k ((hF k).2 hk')), hF⟩
  low := by
    rintro w F s ⟨v, tv, h, hF⟩ k hk
    exact h.low ((hF k).1 hk)
  mP := mRHaP ⟨b, 0, none⟩
  mT := mRHaT ⟨b, 0, none⟩
  mW := mRHaW ⟨b, 0, none⟩
  mA := mRHaA ⟨b, 0, none⟩
  eP := eRHaP
  eT := eRHaT
  eW := eRHaW
  eA := eRHaA
  cP := by
    rintro w F (r : RhS) t n now x ⟨v, tv, h, hF⟩ (hI : RhI p n r) ht0 ht1 ht2 hok hxa hxn hn
    obtain ⟨h1, h2, h3, h4⟩ := hI.facts hm0 hm1
    have hB : RhB p (r.L ++ [x]) := ⟨hm0, hm1, hs0, hs1, by simp; omega, fun y hy => by
      rcases List.mem_append.1 hy with h | h
      · have := ok_flow (h2 y h); omega
      · simp at h; subst h; have := ok_flow hok; omega⟩
    refine (rhput_any now x w h hB (by omega)).mono ?_
    rintro e w' ⟨u, v', tv', rfl, hu, hn, hO⟩
    exact ⟨u, RhF b v' tv', rfl, hu, ⟨v', tv', hO.pos, fun k => Iff.rfl⟩, fun k hk => (hO.own k hk).imp_left (hF k).2, fun k hk => Or.inr (hn k hk), hO.ot.mono (fun k _ h => (hF k).2 h)⟩
  iP := by
    rintro (r : RhS) t n now x ⟨s, hr, hI, hl, hS⟩ ht0 ht1 ht2 hok hxa hxn hn
    obtain ⟨k1, k2⟩ := put_rel hm0 hm1 hr hI hS hok hxn
    obtain ⟨⟨i1, i2, i3⟩, i4⟩ := (hashM_fine 0 p hm0 hm1 hs0 hs1).iP (s := s) (t := t) now x ⟨hI, hl, hS⟩ ht0 ht1 ht2 hok hxa hxn hn
    have i4' : (putH p s x).2.length ≤ 1000000 := i4
    rw [k1] at i4'
    exact ⟨⟨(putH p s x).1, k2, i1, i2, i3⟩, i4'⟩
  cT := by
    rintro w F (r : RhS) t n now ⟨v, tv, h, hF⟩ (hI : RhI p n r) ht0 ht1 ht2 hn
    obtain ⟨h1, h2, h3, h4⟩ := hI.facts hm0 hm1
    refine (rhtake_any now w h (hI.bd hm0 hm1 hs0 hs1 (by omega)) (by omega) h4).mono ?_
    rintro e w' ⟨rfl, v', tv', hO⟩
    have e0 : (takeX p r).2.1 = [] := by unfold takeX; split <;> rfl
    exact ⟨.slice none 0 0, RhF b v' tv', rfl, by show Ps w' _ (takeX p r).2.1; rw [e0]; exact Ps.nil _, ⟨v', tv', hO.pos, fun k => Iff.rfl⟩, fun k hk => (hO.own k hk).imp_left (hF k).2, fun k hk => by simp [Value.ownBlock] at hk, hO.ot.mono (fun k _ h => (hF k).2 h)⟩
  iT := by
    rintro (r : RhS) t n now ⟨s, hr, hI, hl, hS⟩ ht0 ht1 ht2 hn
    obtain ⟨k1, k2⟩ := take_rel hr hI
    obtain ⟨⟨i1, i2, i3⟩, i4⟩ := (hashM_fine 0 p hm0 hm1 hs0 hs1).iT (s := s) (t := t) now ⟨hI, hl, hS⟩ ht0 ht1 ht2 hn
    have e0 : (takeX p r).2.1 = [] := by unfold takeX; split <;> rfl
    exact ⟨⟨(takeH s).1, k2, i1, i2, i3⟩, by show (takeX p r).2.1.length ≤ _; rw [e0]; simp⟩
  cW := by
    rintro w F (r : RhS) t n now ⟨v, tv, h, hF⟩ hI ht0 ht1 ht2 hn
    refine (rhwhen_any now w h).mono ?_
    rintro e w' ⟨rfl, c, rfl⟩
    exact ⟨F, rfl, ⟨v, tv, h.drewN c, hF⟩, fun k hk => Or.inl hk, (Ot.refl _ _).drewN c⟩
  iW := by
    rintro (r : RhS) t n now hI ht0 ht1 ht2 hn
    exact hI
  cA := by
    rintro w F (r : RhS) t n ⟨v, tv, h, hF⟩ (hI : RhI p n r) hn
    obtain ⟨h1, h2, h3, h4⟩ := hI.facts hm0 hm1
    refine (rhall_any w h).mono ?_
    rintro e w' ⟨rfl, rfl⟩
    exact ⟨v, rfl, h.row, ⟨by show r.L.length ≤ _; omega, fun y hy => by have := ok_len (h2 y hy); omega⟩, Below.refl _ _⟩
theorem hash_agree (b b' : Nat) (p : HaC) (hm0 : 1 ≤ p.many) (hm1 : p.many ≤ 64) : Agree (HashM b p) (RHashM b' p) (fun (s : HaS) (r : RhS) => HRel p s r) where
  put := by
    rintro (s : HaS) (r : RhS) t n now x h ⟨hI, hl, hS⟩ _ _ _ _ hok _ hxn _
    exact put_rel hm0 hm1 h hI hS hok hxn
  take := by
    rintro (s : HaS) (r : RhS) t n now h ⟨hI, hl, hS⟩ _ _ _ _ _
    exact take_rel h hI
  when := by
    rintro (s : HaS) (r : RhS) t n now h ⟨hI, hl, hS⟩ _ _ _ _ _
    exact ⟨when_rel hm0 hm1 h hI, fun _ => rfl, h⟩
  len := by
    rintro (s : HaS) (r : RhS) t n h ⟨hI, hl, hS⟩ _
    have hp := h.perm hm0 hm1
    exact ⟨by show ((allF s.fl 64).length : Int) = (r.L.length : Int); rw [hp.length_eq], sumL_perm hp⟩
end Go.Proofs.YtejomfmbhifeaaaDoor
