/-
  millraceref.Hashed as millracelaw.played asks it: its model; it agrees with the program's. Conditions: its numbers within their bounds.
  millracelaw.FairHashed: it returns true at every three numbers and for all steps; nothing that was there before is otherwise. Conditions: the steps lie in memory; errors.errorType holds its handle.
-/
import Derived.Test.YtejomfmbhifeaaaDoorXm2
import Derived.Test.YtejomfmbhifeaaaDoorPd
import Derived.Test.YtejomfmbhifeaaaDoorQg
namespace Go.Proofs.YtejomfmbhifeaaaDoor
open Go.RowKit Go.Extern.Stop Go.Stop Go.Extern

theorem mRHaP (a : Addr) (W : World) : (Go.method 314 73 (.pointer (some a)) "Put").run Tryd.prog W = .ok (128, .pointer (some a)) W := by kernel_rfl
theorem mRHaT (a : Addr) (W : World) : (Go.method 314 73 (.pointer (some a)) "Take").run Tryd.prog W = .ok (129, .pointer (some a)) W := by kernel_rfl
theorem mRHaW (a : Addr) (W : World) : (Go.method 314 73 (.pointer (some a)) "When").run Tryd.prog W = .ok (130, .pointer (some a)) W := by kernel_rfl
theorem mRHaA (a : Addr) (W : World) : (Go.method 314 73 (.pointer (some a)) "All").run Tryd.prog W = .ok (127, .pointer (some a)) W := by kernel_rfl
theorem eRHaP (args : Array Value) (W : World) : (callFunc 128 args).run Tryd.prog W = .ok (.enter 128 args) W := enters_of Tryd.func128 (by kernel_rfl) rfl args W
theorem eRHaT (args : Array Value) (W : World) : (callFunc 129 args).run Tryd.prog W = .ok (.enter 129 args) W := enters_of Tryd.func129 (by kernel_rfl) rfl args W
theorem eRHaW (args : Array Value) (W : World) : (callFunc 130 args).run Tryd.prog W = .ok (.enter 130 args) W := enters_of Tryd.func130 (by kernel_rfl) rfl args W
theorem eRHaA (args : Array Value) (W : World) : (callFunc 127 args).run Tryd.prog W = .ok (.enter 127 args) W := enters_of Tryd.func127 (by kernel_rfl) rfl args W
/-- What holds along the steps. -/
def RhI (p : HaC) (n : Nat) (r : RhS) : Prop := ∃ s : HaS, HRel p s r ∧ HaI p s ∧ (allF s.fl 64).length ≤ n ∧ SH n s
/-- The reference's Hashed in block b. -/
def RHashM (b : Nat) (p : HaC) : RM where
  σ := RhS
  ty := 73
  rv := .pointer (some ⟨b, 0, none⟩)
  fP := 128
  fT := 129
  fW := 130
  fA := 127
  rP := .pointer (some ⟨b, 0, none⟩)
  rT := .pointer (some ⟨b, 0, none⟩)
  rW := .pointer (some ⟨b, 0, none⟩)
  rA := .pointer (some ⟨b, 0, none⟩)
  At := fun w F r => ∃ v tv, RhP w b p v tv r ∧ ∀ k, F k ↔ RhF b v tv k
  put := fun r _ x => putX p r x
  take := fun r _ => takeX p r
  when := fun r now => (r, now, !r.L.isEmpty)
  all := fun r => r.L
  inv := fun _ n r => RhI p n r
theorem RhI.facts {p : HaC} {n : Nat} {r : RhS} (hm0 : 1 ≤ p.many) (hm1 : p.many ≤ 64) (h : RhI p n r) : r.L.length ≤ n ∧ (∀ y ∈ r.L, y.ok = true) ∧ r.tn.length ≤ 64 ∧ ∀ k ∈ r.tn, ofL p r.L k ≠ [] := by
  obtain ⟨s, hr, hI, hl, hS⟩ := h
  refine ⟨by have := (hr.perm hm0 hm1).length_eq; omega, fun y hy => ?_, by rw [← hr.tn]; exact nodup64 hI.tin hI.tnd, fun k hk => ?_⟩
  · have h1 := whereN_bd hm0 y.f
    exact (hI.ok _ (by omega) y (hr.in hm0 hm1 hy)).1
  · rw [← hr.tn] at hk
    have h1 := hI.tin k hk
    obtain ⟨f, rfl⟩ : ∃ f : Nat, k = f := ⟨k.toNat, by omega⟩
    rw [← hr.fl f (by omega)]
    exact (hI.tfl f (by omega)).1 hk
theorem RhI.bd {p : HaC} {n : Nat} {r : RhS} (hm0 : 1 ≤ p.many) (hm1 : p.many ≤ 64) (hs0 : 0 ≤ p.salt) (hs1 : p.salt ≤ 1000000) (h : RhI p n r) (hn : n ≤ 1001) : RhB p r.L := by
  obtain ⟨h1, h2, _, _⟩ := h.facts hm0 hm1
  exact ⟨hm0, hm1, hs0, hs1, by omega, fun y hy => by have := ok_flow (h2 y hy); omega⟩
theorem rhashM_fine (b : Nat) (p : HaC) (hm0 : 1 ≤ p.many) (hm1 : p.many ≤ 64) (hs0 : 0 ≤ p.salt) (hs1 : p.salt ≤ 1000000) : (RHashM b p).Fine where
  kept := by
    rintro w w' F s ⟨v, tv, h, hF⟩ hk
    exact ⟨v, tv, h.kept (fun k hk' => hk k ((hF k).2 hk')), hF⟩
  low := by
    rintro w F s ⟨v, tv, h, hF⟩ k hk
    exact h.low ((hF k).1 hk)
  mP := mRHaP ⟨b, 0, none⟩
  mT := mRHaT ⟨b, 0, none⟩
  mW := mRHaW ⟨b, 0, none⟩
  mA := mRHaA ⟨b, 0, none⟩
  eP := eRHaP
  eT := eRHaT
  eW := eRHaW
  eA := eRHaA
  cP := by
    rintro w F (r : RhS) t n now x ⟨v, tv, h, hF⟩ (hI : RhI p n r) ht0 ht1 ht2 hok hxa hxn hn
    obtain ⟨h1, h2, h3, h4⟩ := hI.facts hm0 hm1
    have hB : RhB p (r.L ++ [x]) := ⟨hm0, hm1, hs0, hs1, by simp; omega, fun y hy => by
      rcases List.mem_append.1 hy with h | h
      · have := ok_flow (h2 y h); omega
      · simp at h; subst h; have := ok_flow hok; omega⟩
    refine (rhput_any now x w h hB (by omega)).mono ?_
    rintro e w' ⟨u, v', tv', rfl, hu, hn, hO⟩
    exact ⟨u, RhF b v' tv', rfl, hu, ⟨v', tv', hO.pos, fun k => Iff.rfl⟩, fun k hk => (hO.own k hk).imp_left (hF k).2, fun k hk => Or.inr (hn k hk), hO.ot.mono (fun k _ h => (hF k).2 h)⟩
  iP := by
    rintro (r : RhS) t n now x ⟨s, hr, hI, hl, hS⟩ ht0 ht1 ht2 hok hxa hxn hn
    obtain ⟨k1, k2⟩ := put_rel hm0 hm1 hr hI hS hok hxn
    obtain ⟨⟨i1, i2, i3⟩, i4⟩ := (hashM_fine 0 p hm0 hm1 hs0 hs1).iP (s := s) (t := t) now x ⟨hI, hl, hS⟩ ht0 ht1 ht2 hok hxa hxn hn
    have i4' : (putH p s x).2.length ≤ 1000000 := i4
    rw [k1] at i4'
    exact ⟨⟨(putH p s x).1, k2, i1, i2, i3⟩, i4'⟩
  cT := by
    rintro w F (r : RhS) t n now ⟨v, tv, h, hF⟩ (hI : RhI p n r) ht0 ht1 ht2 hn
    obtain ⟨h1, h2, h3, h4⟩ := hI.facts hm0 hm1
    refine (rhtake_any now w h (hI.bd hm0 hm1 hs0 hs1 (by omega)) (by omega) h4).mono ?_
    rintro e w' ⟨rfl, v', tv', hO⟩
    have e0 : (takeX p r).2.1 = [] := by unfold takeX; split <;> rfl
    exact ⟨.slice none 0 0, RhF b v' tv', rfl, by show Ps w' _ (takeX p r).2.1; rw [e0]; exact Ps.nil _, ⟨v', tv', hO.pos, fun k => Iff.rfl⟩, fun k hk => (hO.own k hk).imp_left (hF k).2, fun k hk => by simp [Value.ownBlock] at hk, hO.ot.mono (fun k _ h => (hF k).2 h)⟩
  iT := by
    rintro (r : RhS) t n now ⟨s, hr, hI, hl, hS⟩ ht0 ht1 ht2 hn
    obtain ⟨k1, k2⟩ := take_rel hr hI
    obtain ⟨⟨i1, i2, i3⟩, i4⟩ := (hashM_fine 0 p hm0 hm1 hs0 hs1).iT (s := s) (t := t) now ⟨hI, hl, hS⟩ ht0 ht1 ht2 hn
    have e0 : (takeX p r).2.1 = [] := by unfold takeX; split <;> rfl
    exact ⟨⟨(takeH s).1, k2, i1, i2, i3⟩, by show (takeX p r).2.1.length ≤ _; rw [e0]; simp⟩
  cW := by
    rintro w F (r : RhS) t n now ⟨v, tv, h, hF⟩ hI ht0 ht1 ht2 hn
    refine (rhwhen_any now w h).mono ?_
    rintro e w' ⟨rfl, c, rfl⟩
    exact ⟨F, rfl, ⟨v, tv, h.drewN c, hF⟩, fun k hk => Or.inl hk, (Ot.refl _ _).drewN c⟩
  iW := by
    rintro (r : RhS) t n now hI ht0 ht1 ht2 hn
    exact hI
  cA := by
    rintro w F (r : RhS) t n ⟨v, tv, h, hF⟩ (hI : RhI p n r) hn
    obtain ⟨h1, h2, h3, h4⟩ := hI.facts hm0 hm1
    refine (rhall_any w h).mono ?_
    rintro e w' ⟨rfl, rfl⟩
    exact ⟨v, rfl, h.row, ⟨by show r.L.length ≤ _; omega, fun y hy => by have := ok_len (h2 y hy); omega⟩, Below.refl _ _⟩
theorem hash_agree (b b' : Nat) (p : HaC) (hm0 : 1 ≤ p.many) (hm1 : p.many ≤ 64) : Agree (HashM b p) (RHashM b' p) (fun (s : HaS) (r : RhS) => HRel p s r) where
  put := by
    rintro (s : HaS) (r : RhS) t n now x h ⟨hI, hl, hS⟩ _ _ _ _ hok _ hxn _
    exact put_rel hm0 hm1 h hI hS hok hxn
  take := by
    rintro (s : HaS) (r : RhS) t n now h ⟨hI, hl, hS⟩ _ _ _ _ _
    exact take_rel h hI
  when := by
    rintro (s : HaS) (r : RhS) t n now h ⟨hI, hl, hS⟩ _ _ _ _ _
    exact ⟨when_rel hm0 hm1 h hI, fun _ => rfl, h⟩
  len := by
    rintro (s : HaS) (r : RhS) t n h ⟨hI, hl, hS⟩ _
    have hp := h.perm hm0 hm1
    exact ⟨by show ((allF s.fl 64).length : Int) = (r.L.length : Int); rw [hp.length_eq], sumL_perm hp⟩
end Go.Proofs.YtejomfmbhifeaaaDoor
namespace Go.Proofs.YtejomfmbhifeaaaDoor
open Go.RowKit Go.Extern.Stop Go.Stop Go.Extern

theorem ptrHd (b : Nat) (w : World) : (binOp .eql 70 (.pointer (some ⟨b, 0, none⟩)) (.pointer none)).run Tryd.prog w = .ok (.bool false) w := by kernel_rfl
theorem ptrHdN (w : World) : (binOp .eql 70 (.pointer none) (.pointer none)).run Tryd.prog w = .ok (.bool true) w := by kernel_rfl
def HaC.Ok (p : HaC) : Prop := (1 ≤ p.many ∧ p.many ≤ 64) ∧ (0 ≤ p.salt ∧ p.salt ≤ 1000000) ∧ 1 ≤ p.room ∧ p.room ≤ 1000000
theorem hashedCheck_yes (p : HaC) (w : World) (h : p.Ok) : Calls Tryd.prog 20 #[.int .i64 p.many, .int .i64 p.salt, .int .i64 p.room] w fun e w' => e = .returned (.int .i64 0) ∧ w' = w := by
  obtain ⟨h1, h2, h3⟩ := h
  have HY1 := within_yes p.many 1 64 w h1.1 h1.2
  have HY2 := within_yes p.salt 0 1000000 w h2.1 h2.2
  have HY3 := within_yes p.room 1 1000000 w h3.1 h3.2
  clear h1 h2 h3
  go_enter Tryd.func20, Tryd.ntmps20
  go_wp2_with fail
  refine HY1.mono ?_
  rintro e w1 ⟨rfl, hw1⟩
  subst hw1
  go_wp2_with fail
  refine HY2.mono ?_
  rintro e w2 ⟨rfl, hw2⟩
  subst hw2
  go_wp2_with fail
  refine HY3.mono ?_
  rintro e w3 ⟨rfl, hw3⟩
  subst hw3
  go_wp2
  go_ret
  exact ⟨rfl, rfl⟩
theorem hashedCheck_no (p : HaC) (w : World) (h : ¬ p.Ok) : Calls Tryd.prog 20 #[.int .i64 p.many, .int .i64 p.salt, .int .i64 p.room] w fun e w' => e = .returned (.int .i64 2) ∧ w' = w := by
  by_cases h1 : 1 ≤ p.many ∧ p.many ≤ 64
  · have HY1 := within_yes p.many 1 64 w h1.1 h1.2
    by_cases h2 : 0 ≤ p.salt ∧ p.salt ≤ 1000000
    · have HY2 := within_yes p.salt 0 1000000 w h2.1 h2.2
      have HY3 := within_no p.room 1 1000000 w (by
        have : ¬ (1 ≤ p.room ∧ p.room ≤ 1000000) := fun h3 => h ⟨h1, h2, h3⟩
        omega)
      clear h h1 h2
      go_enter Tryd.func20, Tryd.ntmps20
      go_wp2_with fail
      refine HY1.mono ?_
      rintro e w1 ⟨rfl, hw1⟩
      subst hw1
      go_wp2_with fail
      refine HY2.mono ?_
      rintro e w2 ⟨rfl, hw2⟩
      subst hw2
      go_wp2_with fail
      refine HY3.mono ?_
      rintro e w3 ⟨rfl, hw3⟩
      subst hw3
      go_wp2
      go_ret
      exact ⟨rfl, rfl⟩
    · have HY2 := within_no p.salt 0 1000000 w (by omega)
      clear h h1 h2
      go_enter Tryd.func20, Tryd.ntmps20
      go_wp2_with fail
      refine HY1.mono ?_
      rintro e w1 ⟨rfl, hw1⟩
      subst hw1
      go_wp2_with fail
      refine HY2.mono ?_
      rintro e w2 ⟨rfl, hw2⟩
      subst hw2
      go_wp2
      go_ret
      exact ⟨rfl, rfl⟩
  · have HY1 := within_no p.many 1 64 w (by omega)
    clear h h1
    go_enter Tryd.func20, Tryd.ntmps20
    go_wp2_with fail
    refine HY1.mono ?_
    rintro e w1 ⟨rfl, hw1⟩
    subst hw1
    go_wp2
    go_ret
    exact ⟨rfl, rfl⟩
theorem newHa_no (p : HaC) (w : World) (h : ¬ p.Ok) : Calls Tryd.prog 21 #[.int .i64 p.many, .int .i64 p.salt, .int .i64 p.room] w fun e w' => e = .returned (.tuple #[.pointer none, .iface 27 (.int .i64 2)]) ∧ w' = w := by
  have h' : p.many < 1 ∨ 64 < p.many ∨ p.salt < 0 ∨ 1000000 < p.salt ∨ p.room < 1 ∨ 1000000 < p.room := by
    unfold HaC.Ok at h
    omega
  clear h
  rcases Int.lt_or_le p.many 1 with h1 | h1
  · clear h'
    go_enter Tryd.func21, Tryd.ntmps21
    go_wp2
    go_ret2
    exact ⟨rfl, rfl⟩
  rcases Int.lt_or_le 64 p.many with h2 | h2
  · clear h'
    go_enter Tryd.func21, Tryd.ntmps21
    go_wp2
    go_ret2
    exact ⟨rfl, rfl⟩
  rcases Int.lt_or_le p.salt 0 with h3 | h3
  · clear h'
    go_enter Tryd.func21, Tryd.ntmps21
    go_wp2
    go_ret2
    exact ⟨rfl, rfl⟩
  rcases Int.lt_or_le 1000000 p.salt with h4 | h4
  · clear h'
    go_enter Tryd.func21, Tryd.ntmps21
    go_wp2
    go_ret2
    exact ⟨rfl, rfl⟩
  rcases Int.lt_or_le p.room 1 with h5 | h5
  · clear h'
    go_enter Tryd.func21, Tryd.ntmps21
    go_wp2
    go_ret2
    exact ⟨rfl, rfl⟩
  have h6 : 1000000 < p.room := by omega
  clear h'
  go_enter Tryd.func21, Tryd.ntmps21
  go_wp2
  go_ret2
  exact ⟨rfl, rfl⟩
set_option maxRecDepth 20000 in
set_option maxHeartbeats 4000000 in
theorem hashedLaw_any (p : HaC) (x : Option Addr) (cap : Nat) (xs : List Stp) (w : World) (hl : Lies w x (flt Stp.cs xs)) (hm : xs.length ≤ maxLen) (hL : Laid w) :
    Calls Tryd.prog 6 #[.int .i64 p.many, .int .i64 p.salt, .int .i64 p.room, .slice x xs.length cap] w fun e w' => e = .returned (.bool true) ∧ Below w.heap.size w w' := by
  have HL : Hid (Lies w x (flt Stp.cs xs)) := hl
  have HLD : Hid (Laid w) := hL
  clear hl hL
  unfold maxLen at hm
  obtain ⟨q, hq⟩ : ∃ q, xs.length = q := ⟨_, rfl⟩
  have HN : Hid (xs.length = q) := hq
  rw [hq] at hm ⊢
  clear hq
  have hp1 := ptrHd
  have hp2 := ptrHdN
  by_cases hlen : 120 < q
  · go_enter Tryd.func6, Tryd.ntmps6
    go_wp2
    go_ret
    exact ⟨rfl, Below.refl _ _⟩
  have hq1 : q ≤ 120 := by omega
  clear hm hlen
  by_cases hok : p.Ok
  · have HCK := hashedCheck_yes p w hok
    obtain ⟨⟨hm0, hm1⟩, ⟨hs0, hs1⟩, hr0, hr1⟩ := hok
    have HNW := newHa_yes p w hm0 hm1 hs0 hs1 hr0 hr1
    have HF : Hid (∀ b, (HashM b p).Fine) := fun b => hashM_fine b p hm0 hm1 hs0 hs1
    have HF2 : Hid (∀ b, (RHashM b p).Fine) := fun b => rhashM_fine b p hm0 hm1 hs0 hs1
    have HAG : Hid (∀ b b', Agree (HashM b p) (RHashM b' p) (fun (s : HaS) (r : RhS) => HRel p s r)) := fun b b' => hash_agree b b' p hm0 hm1
    have HW1 : Hid (∀ (W : World) (b : Nat) (C : Nat → Value) (vs : Nat → Value) (tv : Value) (s : HaS) (f : Int), HaP W b p C vs tv s → 0 ≤ f → f ≤ 1000000 → Calls Tryd.prog 22 #[.pointer (some ⟨b, 0, none⟩), .int .i64 f] W fun e w' => e = .returned (.int .i64 (whereN p f)) ∧ ∃ n, w' = W.drewN n) := fun W b C vs tv s f hW h0 h1 => where_any f W hW hm0 hm1 hs0 hs1 h0 h1
    have HW2 : Hid (∀ (W : World) (b : Nat) (v tv : Value) (r : RhS) (f : Int), RhP W b p v tv r → 0 ≤ f → f ≤ 1000000 → Calls Tryd.prog 23 #[.pointer (some ⟨b, 0, none⟩), .int .i64 f] W fun e w' => e = .returned (.int .i64 (whereN p f)) ∧ ∃ n, w' = W.drewN n) := fun W b v tv r f hW h0 h1 => rwhere_any f W hW hm0 hm1 hs0 hs1 h0 h1
    clear hm0 hm1 hs0 hs1 hr0 hr1
    go_enter Tryd.func6, Tryd.ntmps6
    go_wp2_with (go_at_call 20; fail)
    refine HCK.mono ?_
    rintro e w1 ⟨rfl, hw1⟩
    subst w1
    go_wp2_with (go_at_call 21; fail)
    refine HNW.mono ?_
    rintro e w2 ⟨rfl, C2, hP2, hb2⟩
    have HB2 : Hid (Below w.heap.size w w2) := hb2
    have HP2 : Hid (HaP w2 w.heap.size p C2 (fun _ => .slice none 0 0) (.slice none 0 0) ha0) := hP2
    have hb2s : w.heap.size < w2.heap.size := hP2.blk.lt
    have HW3 : Hid (RhP (w2.alloc (.cells #[.int .i64 p.many, .int .i64 p.salt, .int .i64 p.room, .slice none 0 0, .slice none 0 0] 75)) w2.heap.size p (.slice none 0 0) (.slice none 0 0) ⟨[], []⟩) := ⟨new_block w2 _, Ps.nil _, Ins.nil _, by simp [Value.ownBlock], by simp [Value.ownBlock], fun k hk => by simp [Value.ownBlock] at hk⟩
    have HB3 : Hid (Below w2.heap.size w2 (w2.alloc (.cells #[.int .i64 p.many, .int .i64 p.salt, .int .i64 p.room, .slice none 0 0, .slice none 0 0] 75))) := below_alloc_ (Below.refl _ _) _
    clear hP2 hb2 HCK HNW
    go_wp2
    go_loopw [13] (fun iv wr => ∃ f n : Nat, f ≤ 16 ∧ iv = .int .i64 f ∧ wr = (w2.alloc (.cells #[.int .i64 p.many, .int .i64 p.salt, .int .i64 p.room, .slice none 0 0, .slice none 0 0] 75)).drewN n) (fun iv _ => 16 - (intOf iv).toNat)
    case atStart => exact ⟨0, 0, by decide, rfl, rfl⟩
    case round =>
      obtain ⟨f, n, hf, rfl, hwr⟩ := hrel
      have HA : Hid (HaP wr w.heap.size p C2 (fun _ => .slice none 0 0) (.slice none 0 0) ha0) := by show HaP _ _ _ _ _ _ _; rw [hwr]; exact (HP2.out.below HB3.out).drewN n
      have HR : Hid (RhP wr w2.heap.size p (.slice none 0 0) (.slice none 0 0) ⟨[], []⟩) := by show RhP _ _ _ _ _ _; rw [hwr]; exact HW3.out.drewN n
      have HBR : Hid (Below w2.heap.size w2 wr) := by show Below _ _ _; rw [hwr]; exact HB3.out.trans ((below_dr n).mono HB3.out.size)
      by_cases h16 : f < 16
      · have HC1 := HW1.out wr _ _ _ _ _ (f : Int) HA.out (by omega) (by omega)
        have HWR : Hid (wr = (w2.alloc (.cells #[.int .i64 p.many, .int .i64 p.salt, .int .i64 p.room, .slice none 0 0, .slice none 0 0] 75)).drewN n) := hwr
        have HR2 : Hid (∀ k, Calls Tryd.prog 23 #[.pointer (some ⟨w2.heap.size, 0, none⟩), .int .i64 f] (wr.drewN k) fun e w' => e = .returned (.int .i64 (whereN p f)) ∧ ∃ n, w' = (wr.drewN k).drewN n) := fun k => HW2.out _ _ _ _ _ (f : Int) (HR.out.drewN k) (by omega) (by omega)
        clear hwr
        generalize whereN p (f : Int) = K at *
        go_wp2_with (go_at_call 22; fail)
        refine HC1.mono ?_
        rintro e w4 ⟨rfl, n4, hw4⟩
        subst hw4
        go_wp2_with (go_at_call 23; fail)
        refine (HR2.out n4).mono ?_
        rintro e w5 ⟨rfl, n5, hw5⟩
        subst hw5
        go_wp2
        go_roundw
        case rel => exact ⟨f + 1, n + (n4 + n5), by omega, by go_num, by rw [HWR.out]; simp⟩
        case measure => simp [intOf]; omega
      · obtain rfl : f = 16 := by omega
        clear hwr
        have HPL := played_any (HashM w.heap.size p) (HF.out _) (RHashM w2.heap.size p) (HF2.out _) _ (HAG.out _ _) (HaF w.heap.size (fun _ => .slice none 0 0) (.slice none 0 0)) (RhF w2.heap.size (.slice none 0 0) (.slice none 0 0)) ha0 (⟨[], []⟩ : RhS) x cap xs wr (HL.out.below (HB2.out.trans (HBR.out.mono HB2.out.size))) (by rw [HN.out]; omega) ⟨_, _, _, HA.out, fun k => Iff.rfl⟩ ⟨HaI.zero p, by decide, fun f hf => ⟨by simp [ha0], by simp [ha0]⟩⟩ ⟨_, _, HR.out, fun k => Iff.rfl⟩ ⟨ha0, HRel.zero p, HaI.zero p, by decide, fun f hf => ⟨by simp [ha0], by simp [ha0]⟩⟩ (fun k h1 h2 => by
          rcases h1 with rfl | ⟨g, _, h1⟩ | h1
          · rcases h2 with h2 | h2 | h2
            · omega
            · simp [Value.ownBlock] at h2
            · simp [Value.ownBlock] at h2
          · simp [Value.ownBlock] at h1
          · simp [Value.ownBlock] at h1) (HRel.zero p)
        rw [HN.out] at HPL
        have HFB : Hid (∀ w3, Ot (fun k => HaF w.heap.size (fun _ => .slice none 0 0) (.slice none 0 0) k ∨ RhF w2.heap.size (.slice none 0 0) (.slice none 0 0) k) wr w3 → Below w.heap.size w w3) := by
          intro w3 hot
          have h1 : Below w.heap.size w wr := HB2.out.trans (HBR.out.mono HB2.out.size)
          refine h1.trans (hot.below h1.size (fun k hk => ?_))
          rcases hk with (h | ⟨g, _, h⟩ | h) | h | h | h
          · omega
          · simp [Value.ownBlock] at h
          · simp [Value.ownBlock] at h
          · have := HB2.out.size; omega
          · simp [Value.ownBlock] at h
          · simp [Value.ownBlock] at h
        go_wp2_with (go_at_call 10; fail)
        refine HPL.mono ?_
        rintro e w3 ⟨rfl, hot⟩
        have HFF : Hid (Below w.heap.size w w3) := HFB.out w3 hot
        clear hot HPL
        go_wp2
        go_ret
        exact ⟨rfl, HFF.out⟩
  · have HCK := hashedCheck_no p w hok
    have HNW := newHa_no p w hok
    have HB : Hid (∀ W : World, Laid W → Calls Tryd.prog 9 #[.iface 27 (.int .i64 2), .int .i64 2] W fun e w' => e = .returned (.bool true) ∧ Below W.heap.size W w') := fun W hW => bare_no 2 W hW (by decide)
    clear hok
    go_enter Tryd.func6, Tryd.ntmps6
    go_wp2_with (go_at_call 20; fail)
    refine HCK.mono ?_
    rintro e w1 ⟨rfl, hw1⟩
    subst w1
    go_wp2_with (go_at_call 21; fail)
    refine HNW.mono ?_
    rintro e w2 ⟨rfl, hw2⟩
    subst w2
    go_wp2_with (go_at_call 9; fail)
    refine (HB.out _ HLD.out).mono ?_
    rintro e w3 ⟨rfl, hb3⟩
    have HB3 : Hid (Below w.heap.size w w3) := hb3
    clear hb3
    go_wp2
    go_ret
    exact ⟨rfl, HB3.out⟩
end Go.Proofs.YtejomfmbhifeaaaDoor
