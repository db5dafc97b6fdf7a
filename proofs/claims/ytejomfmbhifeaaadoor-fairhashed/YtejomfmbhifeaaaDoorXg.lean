/-
  millracelaw.FairHashed: it returns true at every three numbers and for all steps; nothing that was there before is otherwise. Conditions: the steps lie in memory; errors.errorType holds its handle.
-/
import Derived.Test.YtejomfmbhifeaaaDoorXf
import Derived.Test.YtejomfmbhifeaaaDoorQg
namespace Go.Proofs.YtejomfmbhifeaaaDoor
open Go.RowKit Go.Extern.Stop Go.Stop Go.Extern

theorem ptrHd (b : Nat) (w : World) : (binOp .eql 70 (.pointer (some ⟨b, 0, none⟩)) (.pointer none)).run Tryd.prog w = .ok (.bool false) w := by kernel_rfl
theorem ptrHdN (w : World) : (binOp .eql 70 (.pointer none) (.pointer none)).run Tryd.prog w = .ok (.bool true) w := by kernel_rfl
def HaC.Ok (p : HaC) : Prop := (1 ≤ p.many ∧ p.many ≤ 64) ∧ (0 ≤ p.salt ∧ p.salt ≤ 1000000) ∧ 1 ≤ p.room ∧ p.room ≤ 1000000
theorem hashedCheck_yes (p : HaC) (w : World) (h : p.Ok) : Calls Tryd.prog 20 #[.int .i64 p.many, .int .i64 p.salt, .int .i64 p.room] w fun e w' => e = .returned (.int .i64 0) ∧ w' = w := by
  obtain ⟨h1, h2, h3⟩ := h
  have HY1 := within_yes p.many 1 64 w h1.1 h1.2
  have HY2 := within_yes p.salt 0 1000000 w h2.1 h2.2
  have HY3 := within_yes p.room 1 1000000 w h3.1 h3.2
  clear h1 h2 h3
  go_enter Tryd.func20, Tryd.ntmps20
  go_wp2_with fail
  refine HY1.mono ?_
  rintro e w1 ⟨rfl, hw1⟩
  subst hw1
  go_wp2_with fail
  refine HY2.mono ?_
  rintro e w2 ⟨rfl, hw2⟩
  subst hw2
  go_wp2_with fail
  refine HY3.mono ?_
  rintro e w3 ⟨rfl, hw3⟩
  subst hw3
  go_wp2
  go_ret
  exact ⟨rfl, rfl⟩
theorem hashedCheck_no (p : HaC) (w : World) (h : ¬ p.Ok) : Calls Tryd.prog 20 #[.int .i64 p.many, .int .i64 p.salt, .int .i64 p.room] w fun e w' => e = .returned (.int .i64 2) ∧ w' = w := by
  by_cases h1 : 1 ≤ p.many ∧ p.many ≤ 64
  · have HY1 := within_yes p.many 1 64 w h1.1 h1.2
    by_cases h2 : 0 ≤ p.salt ∧ p.salt ≤ 1000000
    · have HY2 := within_yes p.salt 0 1000000 w h2.1 h2.2
      have HY3 := within_no p.room 1 1000000 w (by
        have : ¬ (1 ≤ p.room ∧ p.room ≤ 1000000) := fun h3 => h ⟨h1, h2, h3⟩
        omega)
      clear h h1 h2
      go_enter Tryd.func20, Tryd.ntmps20
      go_wp2_with fail
      refine HY1.mono ?_
      rintro e w1 ⟨rfl, hw1⟩
      subst hw1
      go_wp2_with fail
      refine HY2.mono ?_
      rintro e w2 ⟨rfl, hw2⟩
      subst hw2
      go_wp2_with fail
      refine HY3.mono ?_
      rintro e w3 ⟨rfl, hw3⟩
      subst hw3
      go_wp2
      go_ret
      exact ⟨rfl, rfl⟩
    · have HY2 := within_no p.salt 0 1000000 w (by omega)
      clear h h1 h2
      go_enter Tryd.func20, Tryd.ntmps20
      go_wp2_with fail
      refine HY1.mono ?_
      rintro e w1 ⟨rfl, hw1⟩
      subst hw1
      go_wp2_with fail
      refine HY2.mono ?_
      rintro e w2 ⟨rfl, hw2⟩
      subst hw2
      go_wp2
      go_ret
      exact ⟨rfl, rfl⟩
  · have HY1 := within_no p.many 1 64 w (by omega)
    clear h h1
    go_enter Tryd.func20, Tryd.ntmps20
    go_wp2_with fail
    refine HY1.mono ?_
    rintro e w1 ⟨rfl, hw1⟩
    subst hw1
    go_wp2
    go_ret
    exact ⟨rfl, rfl⟩
theorem newHa_no (p : HaC) (w : World) (h : ¬ p.Ok) : Calls Tryd.prog 21 #[.int .i64 p.many, .int .i64 p.salt, .int .i64 p.room] w fun e w' => e = .returned (.tuple #[.pointer none, .iface 27 (.int .i64 2)]) ∧ w' = w := by
  have h' : p.many < 1 ∨ 64 < p.many ∨ p.salt < 0 ∨ 1000000 < p.salt ∨ p.room < 1 ∨ 1000000 < p.room := by
    unfold HaC.Ok at h
    omega
  clear h
  rcases Int.lt_or_le p.many 1 with h1 | h1
  · clear h'
    go_enter Tryd.func21, Tryd.ntmps21
    go_wp2
    go_ret2
    exact ⟨rfl, rfl⟩
  rcases Int.lt_or_le 64 p.many with h2 | h2
  · clear h'
    go_enter Tryd.func21, Tryd.ntmps21
    go_wp2
    go_ret2
    exact ⟨rfl, rfl⟩
  rcases Int.lt_or_le p.salt 0 with h3 | h3
  · clear h'
    go_enter Tryd.func21, Tryd.ntmps21
    go_wp2
    go_ret2
    exact ⟨rfl, rfl⟩
  rcases Int.lt_or_le 1000000 p.salt with h4 | h4
  · clear h'
    go_enter Tryd.func21, Tryd.ntmps21
    go_wp2
    go_ret2
    exact ⟨rfl, rfl⟩
  rcases Int.lt_or_le p.room 1 with h5 | h5
  · clear h'
    go_enter Tryd.func21, Tryd.ntmps21
    go_wp2
    go_ret2
    exact ⟨rfl, rfl⟩
  have h6 : 1000000 < p.room := by omega
  clear h'
  go_enter Tryd.func21, Tryd.ntmps21
  go_wp2
  go_ret2
  exact ⟨rfl, rfl⟩
set_option maxRecDepth 20000 in
set_option maxHeartbeats 4000000 in
theorem hashedLaw_any (p : HaC) (x : Option Addr) (cap : Nat) (xs : List Stp) (w : World) (hl : Lies w x (flt Stp.cs xs)) (hm : xs.length ≤ maxLen) (hL : Laid w) :
    Calls Tryd.prog 6 #[.int .i64 p.many, .int .i64 p.salt, .int .i64 p.room, .slice x xs.length cap] w fun e w' => e = .returned (.bool true) ∧ Below w.heap.size w w' := by
  have HL : Hid (Lies w x (flt Stp.cs xs)) := hl
  have HLD : Hid (Laid w) := hL
  clear hl hL
  unfold maxLen at hm
  obtain ⟨q, hq⟩ : ∃ q, xs.length = q := ⟨_, rfl⟩
  have HN : Hid (xs.length = q) := hq
  rw [hq] at hm ⊢
  clear hq
  have hp1 := ptrHd
  have hp2 := ptrHdN
  by_cases hlen : 120 < q
  · go_enter Tryd.func6, Tryd.ntmps6
    go_wp2
    go_ret
    exact ⟨rfl, Below.refl _ _⟩
  have hq1 : q ≤ 120 := by omega
  clear hm hlen
  by_cases hok : p.Ok
  · have HCK := hashedCheck_yes p w hok
    obtain ⟨⟨hm0, hm1⟩, ⟨hs0, hs1⟩, hr0, hr1⟩ := hok
    have HNW := newHa_yes p w hm0 hm1 hs0 hs1 hr0 hr1
    have HF : Hid (∀ b, (HashM b p).Fine) := fun b => hashM_fine b p hm0 hm1 hs0 hs1
    have HF2 : Hid (∀ b, (RHashM b p).Fine) := fun b => rhashM_fine b p hm0 hm1 hs0 hs1
    have HAG : Hid (∀ b b', Agree (HashM b p) (RHashM b' p) (fun (s : HaS) (r : RhS) => HRel p s r)) := fun b b' => hash_agree b b' p hm0 hm1
    have HW1 : Hid (∀ (W : World) (b : Nat) (C : Nat → Value) (vs : Nat → Value) (tv : Value) (s : HaS) (f : Int), HaP W b p C vs tv s → 0 ≤ f → f ≤ 1000000 → Calls Tryd.prog 22 #[.pointer (some ⟨b, 0, none⟩), .int .i64 f] W fun e w' => e = .returned (.int .i64 (whereN p f)) ∧ ∃ n, w' = W.drewN n) := fun W b C vs tv s f hW h0 h1 => where_any f W hW hm0 hm1 hs0 hs1 h0 h1
    have HW2 : Hid (∀ (W : World) (b : Nat) (v tv : Value) (r : RhS) (f : Int), RhP W b p v tv r → 0 ≤ f → f ≤ 1000000 → Calls Tryd.prog 23 #[.pointer (some ⟨b, 0, none⟩), .int .i64 f] W fun e w' => e = .returned (.int .i64 (whereN p f)) ∧ ∃ n, w' = W.drewN n) := fun W b v tv r f hW h0 h1 => rwhere_any f W hW hm0 hm1 hs0 hs1 h0 h1
    clear hm0 hm1 hs0 hs1 hr0 hr1
    go_enter Tryd.func6, Tryd.ntmps6
    go_wp2_with (go_at_call 20; fail)
    refine HCK.mono ?_
    rintro e w1 ⟨rfl, hw1⟩
    subst w1
    go_wp2_with (go_at_call 21; fail)
    refine HNW.mono ?_
    rintro e w2 ⟨rfl, C2, hP2, hb2⟩
    have HB2 : Hid (Below w.heap.size w w2) := hb2
    have HP2 : Hid (HaP w2 w.heap.size p C2 (fun _ => .slice none 0 0) (.slice none 0 0) ha0) := hP2
    have hb2s : w.heap.size < w2.heap.size := hP2.blk.lt
    have HW3 : Hid (RhP (w2.alloc (.cells #[.int .i64 p.many, .int .i64 p.salt, .int .i64 p.room, .slice none 0 0, .slice none 0 0] 75)) w2.heap.size p (.slice none 0 0) (.slice none 0 0) ⟨[], []⟩) := ⟨new_block w2 _, Ps.nil _, Ins.nil _, by simp [Value.ownBlock], by simp [Value.ownBlock], fun k hk => by simp [Value.ownBlock] at hk⟩
    have HB3 : Hid (Below w2.heap.size w2 (w2.alloc (.cells #[.int .i64 p.many, .int .i64 p.salt, .int .i64 p.room, .slice none 0 0, .slice none 0 0] 75))) := below_alloc_ (Below.refl _ _) _
    clear hP2 hb2 HCK HNW
    go_wp2
    go_loopw [13] (fun iv wr => ∃ f n : Nat, f ≤ 16 ∧ iv = .int .i64 f ∧ wr = (w2.alloc (.cells #[.int .i64 p.many, .int .i64 p.salt, .int .i64 p.room, .slice none 0 0, .slice none 0 0] 75)).drewN n) (fun iv _ => 16 - (intOf iv).toNat)
    case atStart => exact ⟨0, 0, by decide, rfl, rfl⟩
    case round =>
      obtain ⟨f, n, hf, rfl, hwr⟩ := hrel
      have HA : Hid (HaP wr w.heap.size p C2 (fun _ => .slice none 0 0) (.slice none 0 0) ha0) := by show HaP _ _ _ _ _ _ _; rw [hwr]; exact (HP2.out.below HB3.out).drewN n
      have HR : Hid (RhP wr w2.heap.size p (.slice none 0 0) (.slice none 0 0) ⟨[], []⟩) := by show RhP _ _ _ _ _ _; rw [hwr]; exact HW3.out.drewN n
      have HBR : Hid (Below w2.heap.size w2 wr) := by show Below _ _ _; rw [hwr]; exact HB3.out.trans ((below_dr n).mono HB3.out.size)
      by_cases h16 : f < 16
      · have HC1 := HW1.out wr _ _ _ _ _ (f : Int) HA.out (by omega) (by omega)
        have HWR : Hid (wr = (w2.alloc (.cells #[.int .i64 p.many, .int .i64 p.salt, .int .i64 p.room, .slice none 0 0, .slice none 0 0] 75)).drewN n) := hwr
        have HR2 : Hid (∀ k, Calls Tryd.prog 23 #[.pointer (some ⟨w2.heap.size, 0, none⟩), .int .i64 f] (wr.drewN k) fun e w' => e = .returned (.int .i64 (whereN p f)) ∧ ∃ n, w' = (wr.drewN k).drewN n) := fun k => HW2.out _ _ _ _ _ (f : Int) (HR.out.drewN k) (by omega) (by omega)
        clear hwr
        generalize whereN p (f : Int) = K at *
        go_wp2_with (go_at_call 22; fail)
        refine HC1.mono ?_
        rintro e w4 ⟨rfl, n4, hw4⟩
        subst hw4
        go_wp2_with (go_at_call 23; fail)
        refine (HR2.out n4).mono ?_
        rintro e w5 ⟨rfl, n5, hw5⟩
        subst hw5
        go_wp2
        go_roundw
        case rel => exact ⟨f + 1, n + (n4 + n5), by omega, by go_num, by rw [HWR.out]; simp⟩
        case measure => simp [intOf]; omega
      · obtain rfl : f = 16 := by omega
        clear hwr
        have HPL := played_any (HashM w.heap.size p) (HF.out _) (RHashM w2.heap.size p) (HF2.out _) _ (HAG.out _ _) (HaF w.heap.size (fun _ => .slice none 0 0) (.slice none 0 0)) (RhF w2.heap.size (.slice none 0 0) (.slice none 0 0)) ha0 (⟨[], []⟩ : RhS) x cap xs wr (HL.out.below (HB2.out.trans (HBR.out.mono HB2.out.size))) (by rw [HN.out]; omega) ⟨_, _, _, HA.out, fun k => Iff.rfl⟩ ⟨HaI.zero p, by decide, fun f hf => ⟨by simp [ha0], by simp [ha0]⟩⟩ ⟨_, _, HR.out, fun k => Iff.rfl⟩ ⟨ha0, HRel.zero p, HaI.zero p, by decide, fun f hf => ⟨by simp [ha0], by simp [ha0]⟩⟩ (fun k h1 h2 => by
          rcases h1 with rfl | ⟨g, _, h1⟩ | h1
          · rcases h2 with h2 | h2 | h2
            · omega
            · simp [Value.ownBlock] at h2
            · simp [Value.ownBlock] at h2
          · simp [Value.ownBlock] at h1
          · simp [Value.ownBlock] at h1) (HRel.zero p)
        rw [HN.out] at HPL
        have HFB : Hid (∀ w3, Ot (fun k => HaF w.heap.size (fun _ => .slice none 0 0) (.slice none 0 0) k ∨ RhF w2.heap.size (.slice none 0 0) (.slice none 0 0) k) wr w3 → Below w.heap.size w w3) := by
          intro w3 hot
          have h1 : Below w.heap.size w wr := HB2.out.trans (HBR.out.mono HB2.out.size)
          refine h1.trans (hot.below h1.size (fun k hk => ?_))
          rcases hk with (h | ⟨g, _, h⟩ | h) | h | h | h
          · omega
          · simp [Value.ownBlock] at h
          · simp [Value.ownBlock] at h
          · have := HB2.out.size; omega
          · simp [Value.ownBlock] at h
          · simp [Value.ownBlock] at h
        go_wp2_with (go_at_call 10; fail)
        refine HPL.mono ?_
        rintro e w3 ⟨rfl, hot⟩
        have HFF : Hid (Below w.heap.size w w3) := HFB.out w3 hot
        clear hot HPL
        go_wp2
        go_ret
        exact ⟨rfl, HFF.out⟩
  · have HCK := hashedCheck_no p w hok
    have HNW := newHa_no p w hok
    have HB : Hid (∀ W : World, Laid W → Calls Tryd.prog 9 #[.iface 27 (.int .i64 2), .int .i64 2] W fun e w' => e = .returned (.bool true) ∧ Below W.heap.size W w') := fun W hW => bare_no 2 W hW (by decide)
    clear hok
    go_enter Tryd.func6, Tryd.ntmps6
    go_wp2_with (go_at_call 20; fail)
    refine HCK.mono ?_
    rintro e w1 ⟨rfl, hw1⟩
    subst w1
    go_wp2_with (go_at_call 21; fail)
    refine HNW.mono ?_
    rintro e w2 ⟨rfl, hw2⟩
    subst w2
    go_wp2_with (go_at_call 9; fail)
    refine (HB.out _ HLD.out).mono ?_
    rintro e w3 ⟨rfl, hb3⟩
    have HB3 : Hid (Below w.heap.size w w3) := hb3
    clear hb3
    go_wp2
    go_ret
    exact ⟨rfl, HB3.out⟩
end Go.Proofs.YtejomfmbhifeaaaDoor
