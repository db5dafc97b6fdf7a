/-
  package link with whatever queue: the next time that is looked at. Conditions: the queue's methods do what a model of it tells (a premise).
-/
import Derived.Test.YtgklojgflcekoaaDoorLk3
namespace Go.Proofs.YtgklojgflcekoaaDoor
open Go.RowKit Go.Extern.Stop Go.Stop Go.Extern

/-- When the next one may go, if nothing comes. -/
def goesS (M : QM) (now : Int) (S : LkS M.σ) : LkS M.σ × Int × Bool :=
  if M.len S.s ≤ 0 then (S, 0, false)
  else if now < S.free then (S, S.free, true)
  else ({ S with s := (M.when S.s (now + 1)).1 }, max (M.when S.s (now + 1)).2.1 (now + 1), (M.when S.s (now + 1)).2.2)
/-- The next time. -/
def nextS (M : QM) (items : List It) (now : Int) (S : LkS M.σ) : LkS M.σ × Int × Bool :=
  match items[S.put]? with
  | some x => ((goesS M now S).1, if (goesS M now S).2.2 = true then min x.a (goesS M now S).2.1 else x.a, true)
  | none => goesS M now S
set_option maxHeartbeats 2000000 in
theorem goes_any {M : QM} (hM : M.Fine) {C : LkC} (hC : C.Good) {S : LkS M.σ} {now : Int} (w : World) (h : LkW M C S w) (h2 : now ≤ 10000000) (hI : ∃ tI, 0 ≤ tI ∧ tI ≤ now ∧ M.inv tI S.put S.s) (hput : S.put ≤ C.items.length) :
    Calls Tryd.prog 24 #[.pointer (some ⟨C.bw, 0, none⟩), .int .i64 now] w fun e w' => e = .returned (.tuple #[.int .i64 (goesS M now S).2.1, .bool (goesS M now S).2.2]) ∧ LkW M C (goesS M now S).1 w' := by
  have HM : Hid M.Fine := hM
  have HW0 : Hid (LkW M C S w) := h
  obtain ⟨F, sv, lv, hat⟩ := h
  have HA : Hid (LkAt M C S w F sv lv) := hat
  have hlen := hC.len
  obtain ⟨tI, t0, t1, hinv⟩ := hI
  have HLN : Hid (Calls Tryd.prog M.fL #[M.rL] w fun e w' => e = .returned (.int .i64 (M.len S.s)) ∧ Below w.heap.size w w') := HM.out.cL hat.que hinv (by omega)
  have HWN : Hid (∀ W, Below w.heap.size w W → Calls Tryd.prog M.fW #[M.rW, .int .i64 (now + 1)] W fun e w' => e = .returned (.tuple #[.int .i64 (M.when S.s (now + 1)).2.1, .bool (M.when S.s (now + 1)).2.2]) ∧ LkW M C { S with s := (M.when S.s (now + 1)).1 } w') := by
    intro W hW
    have hAW := HA.out.below HM.out hW
    refine (HM.out.cW (now + 1) hAW.que hinv t0 (by omega) (by omega) (by omega)).mono ?_
    rintro e w4 ⟨F4, rfl, ha4, hf4, ho4⟩
    exact ⟨rfl, F4, sv, lv, hAW.queue (S' := { S with s := (M.when S.s (now + 1)).1 }) ho4 ha4 hf4 rfl rfl rfl rfl rfl⟩
  have hmL := hM.mL
  have heL := hM.eL
  have hmW := hM.mW
  have heW := hM.eW
  have hn0 : 0 ≤ now := by omega
  obtain ⟨c0, _⟩ := hat.cells
  clear hinv hM hC hat
  by_cases h0 : M.len S.s ≤ 0
  · have e0 : goesS M now S = (S, 0, false) := by unfold goesS; rw [if_pos h0]
    rw [e0]
    have HL0 : Hid (M.len S.s ≤ 0) := h0
    go_enter Tryd.func24, Tryd.ntmps24
    go_wp2_with fail
    refine HLN.out.mono ?_
    rintro e w1 ⟨rfl, hb1⟩
    have hd : decide (M.len S.s ≤ 0) = true := decide_eq_true HL0.out
    go_wp2
    go_ret2
    exact ⟨rfl, HW0.out.below HM.out hb1⟩
  · by_cases hb : now < S.free
    · have e0 : goesS M now S = (S, S.free, true) := by unfold goesS; rw [if_neg h0, if_pos hb]
      rw [e0]
      have HL0 : Hid (¬ M.len S.s ≤ 0) := h0
      have HBF : Hid (now < S.free) := hb
      clear h0
      go_enter Tryd.func24, Tryd.ntmps24
      go_wp2_with fail
      refine HLN.out.mono ?_
      rintro e w1 ⟨rfl, hb1⟩
      have hd : decide (M.len S.s ≤ 0) = false := by simp only [decide_eq_false_iff_not]; have := HL0.out; omega
      obtain ⟨_, _, _, _, _, c5, _⟩ := (HA.out.below HM.out hb1).cells
      generalize M.len S.s = ln at *
      go_wp2_with (go_at_call 25; refine (busy_any (free := S.free) now _ c5).mono ?_; rintro e w' ⟨rfl, rfl⟩)
      go_ret2
      exact ⟨rfl, HW0.out.below HM.out hb1⟩
    · have e0 : goesS M now S = ({ S with s := (M.when S.s (now + 1)).1 }, max (M.when S.s (now + 1)).2.1 (now + 1), (M.when S.s (now + 1)).2.2) := by unfold goesS; rw [if_neg h0, if_neg hb]
      rw [e0]
      have HL0 : Hid (¬ M.len S.s ≤ 0) := h0
      clear h0
      generalize M.when S.s (now + 1) = Wn at *
      obtain ⟨s2, at2, ok2⟩ := Wn
      simp only at HWN ⊢
      go_enter Tryd.func24, Tryd.ntmps24
      go_wp2_with fail
      refine HLN.out.mono ?_
      rintro e w1 ⟨rfl, hb1⟩
      have hd : decide (M.len S.s ≤ 0) = false := by simp only [decide_eq_false_iff_not]; have := HL0.out; omega
      obtain ⟨c10, _, _, _, _, c5, _⟩ := (HA.out.below HM.out hb1).cells
      have HB1 : Hid (Below w.heap.size w w1) := hb1
      generalize M.len S.s = ln at *
      go_wp2_with (go_at_call 25; refine (busy_any (free := S.free) now _ c5).mono ?_; rintro e w' ⟨rfl, rfl⟩)
      refine (HWN.out _ HB1.out).mono ?_
      rintro e w2 ⟨rfl, hw2⟩
      have HW2 : Hid (LkW M C { S with s := s2 } w2) := hw2
      clear hw2
      by_cases hm : at2 < now + 1
      · have HE : Hid (max at2 (now + 1) = now + 1) := by show _ = _; omega
        go_wp2
        go_ret2
        exact ⟨by rw [HE.out]; rfl, HW2.out⟩
      · have HE : Hid (max at2 (now + 1) = at2) := by show _ = _; omega
        go_wp2
        go_ret2
        exact ⟨by rw [HE.out]; rfl, HW2.out⟩
set_option maxHeartbeats 2000000 in
theorem next_step {M : QM} (hM : M.Fine) {C : LkC} (hC : C.Good) {S : LkS M.σ} {now : Int} (w : World) (h : LkW M C S w) (h2 : now ≤ 10000000) (hI : ∃ tI, 0 ≤ tI ∧ tI ≤ now ∧ M.inv tI S.put S.s) (hput : S.put ≤ C.items.length) :
    Calls Tryd.prog 14 #[.pointer (some ⟨C.bw, 0, none⟩), .int .i64 now] w fun e w' => e = .returned (.tuple #[.int .i64 (nextS M C.items now S).2.1, .bool (nextS M C.items now S).2.2]) ∧ LkW M C (nextS M C.items now S).1 w' := by
  have HM : Hid M.Fine := hM
  have HC : Hid C.Good := hC
  obtain ⟨F, sv, lv, hat⟩ := h
  have HA : Hid (LkAt M C S w F sv lv) := hat
  have HG : Hid (∀ W, Below w.heap.size w W → Calls Tryd.prog 24 #[.pointer (some ⟨C.bw, 0, none⟩), .int .i64 now] W fun e w' => e = .returned (.tuple #[.int .i64 (goesS M now S).2.1, .bool (goesS M now S).2.2]) ∧ LkW M C (goesS M now S).1 w') := fun W hW => goes_any HM.out HC.out W ⟨F, sv, lv, HA.out.below HM.out hW⟩ h2 hI hput
  have HPU : Hid ((goesS M now S).1.put = S.put) := by
    show _ = _
    unfold goesS
    split
    · rfl
    · split <;> rfl
  obtain ⟨c0, c1, c2, c3, c4, c5, c6, f4, f5, hbw, hbg⟩ := hat.cells
  have hlen := hC.len
  cases hx : C.items[S.put]? with
  | some x =>
    have hlt : S.put < C.items.length := (List.getElem?_eq_some_iff.1 hx).1
    have e0 : nextS M C.items now S = ((goesS M now S).1, if (goesS M now S).2.2 = true then min x.a (goesS M now S).2.1 else x.a, true) := by unfold nextS; rw [hx]
    rw [e0]
    have HX : Hid (C.items[S.put]? = some x) := hx
    have HLT : Hid (S.put < C.items.length) := hlt
    clear hx e0 hM hC hat hI
    generalize goesS M now S = G at *
    obtain ⟨S2, g2, ok2⟩ := G
    simp only at HG HPU ⊢
    obtain ⟨q, hq⟩ : ∃ q, C.items.length = q := ⟨_, rfl⟩
    have HQ : Hid (C.items.length = q) := hq
    rw [hq] at c3 hlt hlen
    clear hq
    go_enter Tryd.func14, Tryd.ntmps14
    go_wp2
    go_quiet (fail)
    go_wp2_with fail
    refine (HG.out _ ?_).mono ?_
    · exact ⟨rfl, rfl, rfl, Nat.le_refl _, fun _ _ => rfl⟩
    rintro e w2 ⟨rfl, hw2⟩
    have HW2 : Hid (LkW M C S2 w2) := hw2
    obtain ⟨F2, sv2, lv2, hA2⟩ := hw2
    clear c0 c1 c2 c3 c4 c5 c6 f4 f5 hbw hbg
    obtain ⟨c0, c1, c2, c3, c4, c5, c6, f4, f5, hbw, hbg⟩ := hA2.cells
    obtain ⟨xb, xo, hxe, hxl, hxf, x0, x1, x2, x3, x4⟩ := hA2.item HC.out HX.out
    rw [HQ.out, hxe] at c3
    rw [HPU.out] at c4
    clear hA2 hxe
    cases ok2 with
    | true =>
      by_cases hm : g2 < x.a
      · have HE : Hid (min x.a g2 = g2) := by show _ = _; omega
        go_wp2
        go_region
        all_goals
          go_wp2
          go_ret2
          exact ⟨by rw [HE.out]; rfl, HW2.out.below HM.out ⟨rfl, rfl, rfl, Nat.le_refl _, fun _ _ => rfl⟩⟩
      · have HE : Hid (min x.a g2 = x.a) := by show _ = _; omega
        go_wp2
        go_region
        all_goals
          go_wp2
          go_ret2
          exact ⟨by rw [HE.out]; rfl, HW2.out.below HM.out ⟨rfl, rfl, rfl, Nat.le_refl _, fun _ _ => rfl⟩⟩
    | false =>
      go_wp2
      go_quiet (fail)
      go_wp2
      go_ret2
      exact ⟨rfl, HW2.out.below HM.out ⟨rfl, rfl, rfl, Nat.le_refl _, fun _ _ => rfl⟩⟩
  | none =>
    have hlt : ¬ S.put < C.items.length := by have := List.getElem?_eq_none_iff.1 hx; omega
    have e0 : nextS M C.items now S = goesS M now S := by unfold nextS; rw [hx]
    rw [e0]
    clear hx e0 hM hC hat hI
    generalize goesS M now S = G at *
    obtain ⟨S2, g2, ok2⟩ := G
    simp only at HG HPU ⊢
    obtain ⟨q, hq⟩ : ∃ q, C.items.length = q := ⟨_, rfl⟩
    rw [hq] at c3 hlt hlen
    clear hq
    go_enter Tryd.func14, Tryd.ntmps14
    go_wp2
    go_quiet (fail)
    go_wp2_with fail
    refine (HG.out _ ?_).mono ?_
    · exact ⟨rfl, rfl, rfl, Nat.le_refl _, fun _ _ => rfl⟩
    rintro e w2 ⟨rfl, hw2⟩
    have HW2 : Hid (LkW M C S2 w2) := hw2
    clear hw2
    go_wp2
    go_ret2
    exact ⟨rfl, HW2.out⟩
end Go.Proofs.YtgklojgflcekoaaDoor
