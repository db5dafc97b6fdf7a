/-
  A Shaper is a queue as plain.Play asks it: its model; shaper.New. Conditions: a bucket that may be; the queue's methods do what a model of it tells (a premise).
-/
import Derived.Test.YtgklojgflcekoaaDoorSp3
namespace Go.Proofs.YtgklojgflcekoaaDoor
open Go.RowKit Go.Extern.Stop Go.Stop Go.Extern

theorem mShaperP (b : Nat) (W : World) : (Go.method 262 34 (.pointer (some ⟨b, 0, none⟩)) "Put").run Tryd.prog W = .ok (71, .pointer (some ⟨b, 0, none⟩)) W := by kernel_rfl
theorem mShaperT (b : Nat) (W : World) : (Go.method 262 34 (.pointer (some ⟨b, 0, none⟩)) "Take").run Tryd.prog W = .ok (72, .pointer (some ⟨b, 0, none⟩)) W := by kernel_rfl
theorem mShaperW (b : Nat) (W : World) : (Go.method 262 34 (.pointer (some ⟨b, 0, none⟩)) "When").run Tryd.prog W = .ok (73, .pointer (some ⟨b, 0, none⟩)) W := by kernel_rfl
theorem mShaperL (b : Nat) (W : World) : (Go.method 262 34 (.pointer (some ⟨b, 0, none⟩)) "Len").run Tryd.prog W = .ok (70, .pointer (some ⟨b, 0, none⟩)) W := by kernel_rfl
theorem mShaperB (b : Nat) (W : World) : (Go.method 262 34 (.pointer (some ⟨b, 0, none⟩)) "Bytes").run Tryd.prog W = .ok (69, .pointer (some ⟨b, 0, none⟩)) W := by kernel_rfl
theorem eShaperP (args : Array Value) (W : World) : (callFunc 71 args).run Tryd.prog W = .ok (.enter 71 args) W := enters_of Tryd.func71 (by kernel_rfl) rfl args W
theorem eShaperT (args : Array Value) (W : World) : (callFunc 72 args).run Tryd.prog W = .ok (.enter 72 args) W := enters_of Tryd.func72 (by kernel_rfl) rfl args W
theorem eShaperW (args : Array Value) (W : World) : (callFunc 73 args).run Tryd.prog W = .ok (.enter 73 args) W := enters_of Tryd.func73 (by kernel_rfl) rfl args W
theorem eShaperL (args : Array Value) (W : World) : (callFunc 70 args).run Tryd.prog W = .ok (.enter 70 args) W := enters_of Tryd.func70 (by kernel_rfl) rfl args W
theorem eShaperB (args : Array Value) (W : World) : (callFunc 69 args).run Tryd.prog W = .ok (.enter 69 args) W := enters_of Tryd.func69 (by kernel_rfl) rfl args W

/-- A shaper in block B over a queue. -/
def ShaperM (M : QM) (B : Nat) (n t R : Int) : QM where
  σ := ShS M.σ
  ty := 34
  rv := .pointer (some ⟨B, 0, none⟩)
  fP := 71
  fT := 72
  fW := 73
  fL := 70
  fB := 69
  rP := .pointer (some ⟨B, 0, none⟩)
  rT := .pointer (some ⟨B, 0, none⟩)
  rW := .pointer (some ⟨B, 0, none⟩)
  rL := .pointer (some ⟨B, 0, none⟩)
  rB := .pointer (some ⟨B, 0, none⟩)
  At := fun w G s => ∃ F nx, ShAt M B n t R w F s nx ∧ ∀ k, G k ↔ k = B ∨ F k
  put := fun s now x => putS R s now x
  take := fun s now => takeS n t R s now
  when := fun s now => whenS n t R s now
  len := fun s => lenS s
  bytes := fun s => bytesS s
  inv := fun tt nn s => ShI M n t R tt nn s
theorem LookP.at {M : QM} {B : Nat} {n t R : Int} {F G : Nat → Prop} {w w' : World} {s : ShS M.σ} (h : LookP M B n t R F w s w') (hG : ∀ k, G k ↔ k = B ∨ F k) : ∃ G', (ShaperM M B n t R).At w' G' s ∧ (∀ k, G' k → G k ∨ w.heap.size ≤ k) ∧ Ot G w w' := by
  obtain ⟨F', nx, h1, h2⟩ := h.ex
  refine ⟨fun k => k = B ∨ F' k, ⟨F', nx, h1, fun _ => Iff.rfl⟩, fun k hk => ?_, h.ot.mono (fun k _ hk => (hG k).2 hk)⟩
  rcases hk with hk | hk
  · exact Or.inl ((hG k).2 (Or.inl hk))
  · rcases h2 k hk with h | h
    · exact Or.inl ((hG k).2 (Or.inr h))
    · exact Or.inr h
theorem drw_room {t R lev x : Int} (h0 : 0 ≤ lev) (h1 : lev ≤ R * t) (hx : 0 ≤ x * t) : 0 ≤ drw t lev x ∧ drw t lev x ≤ R * t := by
  unfold drw
  split <;> omega
theorem takeS_none {M : QM} {n t R : Int} (s : ShS M.σ) (now : Int) : (takeS n t R s now).2.1 = [] := by
  unfold takeS
  split
  · rfl
  · split <;> rfl
theorem shaperM_fine {M : QM} (hM : M.Calm) (B : Nat) {n t R : Int} (hb : okB n t R) : (ShaperM M B n t R).Fine where
  kept := by
    rintro w w' G s ⟨F, nx, h, hG⟩ hk
    exact ⟨F, nx, h.kept hM (fun k hf => hk k ((hG k).2 hf)), hG⟩
  low := by
    rintro w G s ⟨F, nx, h, hG⟩ k hk
    exact h.low hM k ((hG k).1 hk)
  mP := mShaperP _
  mT := mShaperT _
  mW := mShaperW _
  mL := mShaperL _
  mB := mShaperB _
  eP := eShaperP
  eT := eShaperT
  eW := eShaperW
  eL := eShaperL
  eB := eShaperB
  cP := by
    rintro w G s tt nn now x ⟨F, nx, h, hG⟩ hI h0 h1 h2 hok hxa hxn hn
    refine (sput_any now x hM w h hI.q h0 h1 h2 hok hxa hxn hn).mono ?_
    rintro e w' ⟨u, rfl, hu, hl, hk⟩
    obtain ⟨G', g1, g2, g3⟩ := hl.at hG
    refine ⟨u, G', rfl, hu, g1, g2, fun k hk' => ?_, g3⟩
    rcases hk k hk' with h' | h'
    · exact Or.inl ((hG k).2 (Or.inr h'))
    · exact Or.inr h'
  iP := by
    intro (s : ShS M.σ) tt nn now x hI h0 h1 h2 hok hxa hxn hn
    show ShI M n t R now (nn + 1) (putS R s now x).1 ∧ (putS R s now x).2.length ≤ 1000000
    have hq := hM.fine.iP now x hI.q h0 h1 h2 hok hxa hxn hn
    unfold putS
    split
    · exact ⟨⟨hM.mono hI.q h1 (Nat.le_succ _), hI.l0, hI.l1, hI.t0, Int.le_trans hI.t1 h1, hI.held⟩, by simp⟩
    · exact ⟨⟨hq.1, hI.l0, hI.l1, hI.t0, Int.le_trans hI.t1 h1, hI.held⟩, hq.2⟩
  cT := by
    rintro w G s tt nn now ⟨F, nx, h, hG⟩ hI h0 h1 h2 hn
    refine (stake_any now hM hb w h hI h0 h1 h2 hn).mono ?_
    rintro e w' ⟨rfl, hT⟩
    obtain ⟨G', g1, g2, g3⟩ := hT.look.at hG
    exact ⟨_, G', rfl, by rw [show ((ShaperM M B n t R).take s now).2.1 = [] from takeS_none s now]; exact Hs.nil _, g1, g2, fun k hk => by simp [Value.ownBlock] at hk, g3⟩
  iT := by
    intro (s : ShS M.σ) tt nn now hI h0 h1 h2 hn
    show ShI M n t R now nn (takeS n t R s now).1 ∧ (takeS n t R s now).2.1.length ≤ 1000000
    refine ⟨?_, by rw [takeS_none]; simp⟩
    have hl := look_inv hM now hI h0 h1 h2 hn
    have hp := pas_room (n := n) (t := t) (R := R) (lat := s.lat) (now := now) hb.1.1 hI.l0 hI.l1
    have hla : 0 ≤ lat1 s.lat now ∧ lat1 s.lat now ≤ now := by have := hI.t0; have := hI.t1; unfold lat1; split <;> omega
    unfold takeS
    split
    · exact hl
    · rename_i x hx
      have hxl := ok_len (hl.held x hx)
      have hd := drw_room (t := t) (R := R) (x := x.l) hp.1 hp.2 (Int.mul_nonneg (by omega) (by have := hb.2.1; omega))
      split
      · exact ⟨hl.q, hd.1, hd.2, hla.1, hla.2, fun y hy => by simp at hy⟩
      · exact ⟨hl.q, hd.1, hd.2, hla.1, hla.2, hl.held⟩
  cW := by
    rintro w G s tt nn now ⟨F, nx, h, hG⟩ hI h0 h1 h2 hn
    refine (swhen_any now hM hb w h hI h0 h1 h2 hn).mono ?_
    rintro e w' ⟨rfl, hl⟩
    obtain ⟨G', g1, g2, g3⟩ := hl.at hG
    exact ⟨G', rfl, g1, g2, g3⟩
  iW := by
    intro (s : ShS M.σ) tt nn now hI h0 h1 h2 hn
    show ShI M n t R now nn (whenS n t R s now).1
    have hl := look_inv hM now hI h0 h1 h2 hn
    have hp := pas_room (n := n) (t := t) (R := R) (lat := s.lat) (now := now) hb.1.1 hI.l0 hI.l1
    have hla : 0 ≤ lat1 s.lat now ∧ lat1 s.lat now ≤ now := by have := hI.t0; have := hI.t1; unfold lat1; split <;> omega
    unfold whenS
    split
    · exact ⟨hM.fine.iW now hl.q (by omega) (Int.le_refl _) h2 hn, hl.l0, hl.l1, hl.t0, hl.t1, hl.held⟩
    · split
      · exact ⟨hl.q, hp.1, hp.2, hla.1, hla.2, hl.held⟩
      · exact ⟨hl.q, hp.1, hp.2, hla.1, hla.2, hl.held⟩
  cL := by
    rintro w G s tt nn ⟨F, nx, h, hG⟩ hI hn
    exact slen_any hM w h hI hn
  cB := by
    rintro w G s tt nn ⟨F, nx, h, hG⟩ hI hn
    exact sbytes_any hM w h hI hn
end Go.Proofs.YtgklojgflcekoaaDoor
