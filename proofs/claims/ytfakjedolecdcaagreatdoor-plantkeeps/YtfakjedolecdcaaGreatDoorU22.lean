/-
  shaper.Shaper: what When, Len and Bytes return, and what they leave. Conditions: the queue's methods do what a model of it tells (a premise); a bucket that may be; a level within its room.
  A Shaper is a queue as plain.Play asks it: its model; shaper.New. Conditions: a bucket that may be; the queue's methods do what a model of it tells (a premise).
-/
import Derived.Test.YtfakjedolecdcaaGreatDoorSp2
namespace Go.Proofs.YtfakjedolecdcaaGreatDoor
open Go.RowKit Go.Extern.Stop Go.Stop Go.Extern

theorem slen_any {M : QM} {B : Nat} {n t R : Int} {F : Nat → Prop} {s : ShS M.σ} {nx : Hd} {tt : Int} {nn : Nat} (hM : M.Calm) (w : World) (h : ShAt M B n t R w F s nx) (hI : ShI M n t R tt nn s) (hn : nn ≤ 1001) :
    Calls Tryz.prog 186 #[.pointer (some ⟨B, 0, none⟩)] w fun e w' => e = .returned (.int .i64 (lenS s)) ∧ Below w.heap.size w w' := by
  obtain ⟨_, _, _, c12, _⟩ := h.cells
  have HW := swithin_any w h
  have HCL := hM.fine.cL h.inner hI.q hn
  have hmL := hM.fine.mL
  have heL := hM.fine.eL
  obtain ⟨⟨hs0, hs1⟩, _⟩ := hM.small hI.q hn
  cases hh : s.hold with
  | none =>
    have HE : Hid (lenS s = M.len s.q) := by show _ = _; unfold lenS; rw [hh]
    rw [hh] at c12
    simp only [Option.isSome] at c12
    clear h hI hM
    go_enter Tryz.func186, Tryz.ntmps186
    go_wp2_with fail
    refine HW.mono ?_
    rintro e w0 ⟨rfl, rfl⟩
    go_wp2_with fail
    refine HCL.mono ?_
    rintro e w1 ⟨rfl, hb1⟩
    go_wp2
    go_ret
    exact ⟨by rw [HE.out]; rfl, hb1⟩
  | some x =>
    have HE : Hid (lenS s = M.len s.q + 1) := by show _ = _; unfold lenS; rw [hh]
    rw [hh] at c12
    simp only [Option.isSome] at c12
    clear h hI hM
    go_enter Tryz.func186, Tryz.ntmps186
    go_wp2_with fail
    refine HW.mono ?_
    rintro e w0 ⟨rfl, rfl⟩
    go_wp2_with fail
    refine HCL.mono ?_
    rintro e w1 ⟨rfl, hb1⟩
    go_wp2
    go_ret
    exact ⟨by rw [HE.out]; rfl, hb1⟩
set_option maxRecDepth 20000 in
set_option maxHeartbeats 1000000 in
theorem sbytes_any {M : QM} {B : Nat} {n t R : Int} {F : Nat → Prop} {s : ShS M.σ} {nx : Hd} {tt : Int} {nn : Nat} (hM : M.Calm) (w : World) (h : ShAt M B n t R w F s nx) (hI : ShI M n t R tt nn s) (hn : nn ≤ 1001) :
    Calls Tryz.prog 185 #[.pointer (some ⟨B, 0, none⟩)] w fun e w' => e = .returned (.int .i64 (bytesS s)) ∧ Below w.heap.size w w' := by
  obtain ⟨_, _, ⟨_, c7, _⟩, c12, _⟩ := h.cells
  have hB := h.blk.lt
  have HW : Hid (∀ W : World, W.heap[B]? = w.heap[B]? → M.At W F s.q → Calls Tryz.prog 190 #[.pointer (some ⟨B, 0, none⟩)] W fun e w' => e = .returned (.iface M.ty M.rv) ∧ w' = W) := fun W h1 h2 => swithin_any W ⟨h.blk.same h1, h2, h.out, h.eq⟩
  have HCB : Hid (∀ W : World, M.At W F s.q → Calls Tryz.prog M.fB #[M.rB] W fun e w' => e = .returned (.int .i64 (M.bytes s.q)) ∧ Below W.heap.size W w') := fun W h1 => hM.fine.cB h1 hI.q hn
  have HAT : Hid (∀ W : World, (∀ k, F k → W.heap[k]? = w.heap[k]?) → M.At W F s.q) := fun W h1 => hM.fine.kept h.inner h1
  have hmB := hM.fine.mB
  have heB := hM.fine.eB
  obtain ⟨_, hs0, hs1⟩ := hM.small hI.q hn
  cases hh : s.hold with
  | none =>
    have HE : Hid (bytesS s = M.bytes s.q) := by show _ = _; unfold bytesS; rw [hh]
    rw [hh] at c12
    simp only [Option.isSome] at c12
    clear h hI hM
    go_enter Tryz.func185, Tryz.ntmps185
    go_wp2_with fail
    refine (HW.out w rfl (HAT.out w (fun _ _ => rfl))).mono ?_
    rintro e w0 ⟨rfl, rfl⟩
    go_wp2_with fail
    refine (HCB.out w0 (HAT.out w0 (fun _ _ => rfl))).mono ?_
    rintro e w1 ⟨rfl, hb1⟩
    go_wp2
    go_ret
    exact ⟨by rw [HE.out]; rfl, hb1⟩
  | some x =>
    have hxl := ok_len (hI.held x hh)
    obtain rfl := h.eq x hh
    have HE : Hid (bytesS s = M.bytes s.q + nx.l) := by show _ = _; unfold bytesS; rw [hh]
    have HC7 : Hid (∀ W : World, W.heap[B]? = w.heap[B]? → W.cell? ⟨B, 7, none⟩ = some (.int .i64 nx.l)) := fun W hW => (World.cell?_of_block (w := w) hW).trans c7
    rw [hh] at c12
    simp only [Option.isSome] at c12
    have hwr : IntKind.i64.wrap (M.bytes s.q + nx.l) = M.bytes s.q + nx.l := by rw [IntKind.wrap_i64]; omega
    clear h hI hM hs0 hs1 hxl
    go_enter Tryz.func185, Tryz.ntmps185
    go_wp2
    go_region_held3 (fun W => W.cell? ⟨B, 7, none⟩ = some (.int .i64 nx.l)) (first | exact HC7.out _ (hb1.block B (by exact hB)) | (refine HC7.out _ ?_; rfl)) (first | (go_at_call 190; refine (HW.out _ ?_ (HAT.out _ ?_)).mono ?_; rfl; exact fun _ _ => rfl; rintro e w0 ⟨rfl, rfl⟩) | (refine (HCB.out _ (HAT.out _ ?_)).mono ?_; exact fun _ _ => rfl; rintro e w1 ⟨rfl, hb1⟩))
    all_goals
      go_wp2
      go_ret
      exact ⟨by rw [HE.out]; rfl, (Below.refl w.heap.size w).drew.trans hb1⟩
set_option maxHeartbeats 2000000 in
theorem swhen_any {M : QM} {B : Nat} {n t R : Int} {F : Nat → Prop} {s : ShS M.σ} {nx : Hd} {tt : Int} {nn : Nat} (now : Int) (hM : M.Calm) (hb : okB n t R) (w : World) (h : ShAt M B n t R w F s nx) (hI : ShI M n t R tt nn s) (h0 : 0 ≤ tt) (h1 : tt ≤ now) (h2 : now ≤ 20000000) (hn : nn ≤ 1000) :
    Calls Tryz.prog 189 #[.pointer (some ⟨B, 0, none⟩), .int .i64 now] w fun e w' => e = .returned (.tuple #[.int .i64 (whenS n t R s now).2.1, .bool (whenS n t R s now).2.2]) ∧ LookP M B n t R F w (whenS n t R s now).1 w' := by
  have HM : Hid M.Calm := hM
  have HI2 : Hid (ShI M n t R now nn (lookS s now)) := look_inv hM now hI h0 h1 h2 hn
  have HLK := look_any now hM w h hI.q h0 h1 h2 hn
  have HE : Hid ((lookS s now).lev = s.lev ∧ (lookS s now).lat = s.lat) := lookS_same s now
  have HTS : Hid (whenS n t R s now = match (lookS s now).hold with
    | none => ({ lookS s now with q := (M.when (lookS s now).q now).1 }, (M.when (lookS s now).q now).2.1, (M.when (lookS s now).q now).2.2)
    | some x => if x.l ≤ R then ({ lookS s now with lev := pas n t R s.lev s.lat now, lat := lat1 s.lat now }, whn n t (pas n t R s.lev s.lat now) (lat1 s.lat now) x.l, true) else ({ lookS s now with lev := pas n t R s.lev s.lat now, lat := lat1 s.lat now }, 0, false)) := rfl
  obtain ⟨s1, hs1⟩ : ∃ s1, lookS s now = s1 := ⟨_, rfl⟩
  obtain ⟨r, hr⟩ : ∃ r, whenS n t R s now = r := ⟨_, rfl⟩
  rw [hs1] at HI2 HLK HE HTS
  rw [hr] at HTS ⊢
  have HB : Hid (okB n t R) := hb
  have HNN : Hid (0 ≤ now ∧ now ≤ 20000000 ∧ nn ≤ 1000) := ⟨by omega, h2, hn⟩
  clear hs1 hr h hM hI hb
  go_enter Tryz.func189, Tryz.ntmps189
  go_wp2_with fail
  refine HLK.mono ?_
  rintro e w1 ⟨rfl, hl1⟩
  clear HLK
  have HOT1 : Hid (Ot (fun k => k = B ∨ F k) w w1) := hl1.ot
  obtain ⟨F1, nx1, hA1, hF1⟩ := hl1.ex
  have HF1 : Hid (∀ k, F1 k → F k ∨ w.heap.size ≤ k) := hF1
  have HA1 : Hid (ShAt M B n t R w1 F1 s1 nx1) := hA1
  obtain ⟨c0, c3, ⟨d6, d7, d8, d9, d10, d11⟩, c12, c13, ⟨f6, f7, f8, f9, f10, f11⟩, f12, f13⟩ := hA1.cells
  have hB1 := hA1.blk.lt
  clear hA1 hF1 hl1
  cases hh : s1.hold with
  | none =>
    rw [hh] at c12
    simp only [Option.isSome] at c12
    have HTS2 : Hid (r = ({ s1 with q := (M.when s1.q now).1 }, (M.when s1.q now).2.1, (M.when s1.q now).2.2)) := by
      show _ = _
      rw [show r = _ from HTS.out, hh]
    have hmW := HM.out.fine.mW
    have heW := HM.out.fine.eW
    have HW := swithin_any w1 HA1.out
    have HCW := HM.out.fine.cW now HA1.out.inner HI2.out.q HNN.out.1 (Int.le_refl _) HNN.out.2.1 HNN.out.2.2
    clear HTS hh
    go_wp2_with fail
    refine HW.mono ?_
    rintro e w2 ⟨rfl, rfl⟩
    go_wp2_with fail
    refine HCW.mono ?_
    rintro e w3 ⟨F3, rfl, ha3, hf3, ho3⟩
    go_wp2
    go_ret2
    have hnb : ¬ F3 B := by
      intro hb'
      rcases hf3 B hb' with h' | h'
      · exact HA1.out.out h'
      · omega
    refine ⟨by rw [HTS2.out]; rfl, ?_⟩
    rw [HTS2.out]
    refine ⟨⟨F3, nx1, ⟨HA1.out.blk.same (ho3.block B hB1 HA1.out.out), ha3, hnb, HA1.out.eq⟩, fun k hk => ?_⟩, HOT1.out.trans' ho3 (fun k hk hkl => ?_)⟩
    · rcases hf3 k hk with h' | h'
      · exact HF1.out k h'
      · right; have := HOT1.out.size; omega
    · rcases HF1.out k hk with h' | h'
      · exact Or.inr h'
      · omega
  | some x =>
    obtain rfl := HA1.out.eq x hh
    rw [hh] at c12
    simp only [Option.isSome] at c12
    have hxl := ok_len (HI2.out.held _ hh)
    have HC7 : Hid (∀ W : World, W.heap[B]? = w1.heap[B]? → W.cell? ⟨B, 7, none⟩ = some (.int .i64 nx1.l)) := fun W hW => (World.cell?_of_block (w := w1) hW).trans d7
    have HHH : Hid (s1.hold = some nx1) := hh
    have HTK : Hid (∀ W : World, W.heap[B]? = w1.heap[B]? → Calls Tryz.prog 193 #[.pointer (some ⟨B, 1, none⟩), .int .i64 now, .int .i64 nx1.l] W fun e w' => e = .returned (.tuple #[.int .i64 r.2.1, .bool r.2.2]) ∧ StG w' B 1 [.iface M.ty M.rv] (shPost nx1 true) 171 n t R (pas n t R s.lev s.lat now) (lat1 s.lat now) ∧ Oth (· = B) W w') := by
      intro W hW
      have hst := HA1.out.blk.same hW
      have hi := HI2.out
      have hnn := HNN.out
      rw [HE.out.1, HE.out.2, hh] at hst
      have e1 : r = _ := HTS.out
      rw [hh] at e1
      simp only at e1
      by_cases hr : nx1.l ≤ R
      · rw [if_pos hr] at e1
        rw [e1]
        exact when_yes now nx1.l W hst HB.out (by rw [← HE.out.1]; exact hi.l0) (by rw [← HE.out.1]; exact hi.l1) (by rw [← HE.out.2]; exact hi.t0) (by rw [← HE.out.2]; have := hi.t1; omega) (by omega) (by omega) hr
      · rw [if_neg hr] at e1
        rw [e1]
        exact when_no now nx1.l W hst HB.out (by rw [← HE.out.1]; exact hi.l0) (by rw [← HE.out.1]; exact hi.l1) (by rw [← HE.out.2]; exact hi.t0) (by omega) (by omega) (by omega)
    have HR1 : Hid (r.1 = { q := s1.q, lev := pas n t R s.lev s.lat now, lat := lat1 s.lat now, hold := some nx1 }) := by
      show _ = _
      have e1 : r = _ := HTS.out
      rw [hh] at e1
      simp only at e1
      split at e1 <;> (rw [e1])
    clear HTS hh hxl
    obtain ⟨ra, ro, rb⟩ := r
    simp only at HTK HR1 ⊢
    go_wp2
    go_region_held3 (fun W => W.cell? ⟨B, 7, none⟩ = some (.int .i64 nx1.l)) (first | exact e7 | (refine HC7.out _ ?_; rfl)) ((go_at_call 193; refine (HTK.out _ ?_).mono ?_; rfl; rintro e w3 ⟨rfl, hst3, ho3⟩; have HOT3 : Hid (Ot (fun k => k = B ∨ F k) w w3) := HOT1.out.trans' (c := w3) (T := (· = B)) (by exact ⟨ho3.os, ho3.tape, ho3.output, ho3.size, ho3.block⟩) (fun k e _ => Or.inl e); have hA3 : ShAt M B n t R w3 F1 { q := s1.q, lev := pas n t R s.lev s.lat now, lat := lat1 s.lat now, hold := some nx1 } nx1 := ⟨hst3, HM.out.fine.kept HA1.out.inner (fun k hk => (ho3.block k (by exact HM.out.fine.low HA1.out.inner k hk) (fun e => HA1.out.out (by rw [← e]; exact hk)))), HA1.out.out, fun y hy => by simpa using hy⟩; have HA3 : Hid (ShAt M B n t R w3 F1 { q := s1.q, lev := pas n t R s.lev s.lat now, lat := lat1 s.lat now, hold := some nx1 } nx1) := hA3; obtain ⟨k0, k3, ⟨e6, e7, e8, e9, e10, e11⟩, k12, k13, _⟩ := hA3.cells; clear hA3 hst3 ho3))
    all_goals
      go_wp2
      go_ret2
      refine ⟨rfl, ?_⟩
      rw [HR1.out]
      exact ⟨⟨F1, nx1, HA3.out, HF1.out⟩, HOT3.out⟩
end Go.Proofs.YtfakjedolecdcaaGreatDoor
namespace Go.Proofs.YtfakjedolecdcaaGreatDoor
open Go.RowKit Go.Extern.Stop Go.Stop Go.Extern

theorem mShaperP (b : Nat) (W : World) : (Go.method 395 131 (.pointer (some ⟨b, 0, none⟩)) "Put").run Tryz.prog W = .ok (187, .pointer (some ⟨b, 0, none⟩)) W := by kernel_rfl
theorem mShaperT (b : Nat) (W : World) : (Go.method 395 131 (.pointer (some ⟨b, 0, none⟩)) "Take").run Tryz.prog W = .ok (188, .pointer (some ⟨b, 0, none⟩)) W := by kernel_rfl
theorem mShaperW (b : Nat) (W : World) : (Go.method 395 131 (.pointer (some ⟨b, 0, none⟩)) "When").run Tryz.prog W = .ok (189, .pointer (some ⟨b, 0, none⟩)) W := by kernel_rfl
theorem mShaperL (b : Nat) (W : World) : (Go.method 395 131 (.pointer (some ⟨b, 0, none⟩)) "Len").run Tryz.prog W = .ok (186, .pointer (some ⟨b, 0, none⟩)) W := by kernel_rfl
theorem mShaperB (b : Nat) (W : World) : (Go.method 395 131 (.pointer (some ⟨b, 0, none⟩)) "Bytes").run Tryz.prog W = .ok (185, .pointer (some ⟨b, 0, none⟩)) W := by kernel_rfl
theorem eShaperP (args : Array Value) (W : World) : (callFunc 187 args).run Tryz.prog W = .ok (.enter 187 args) W := enters_of Tryz.func187 (by kernel_rfl) rfl args W
theorem eShaperT (args : Array Value) (W : World) : (callFunc 188 args).run Tryz.prog W = .ok (.enter 188 args) W := enters_of Tryz.func188 (by kernel_rfl) rfl args W
theorem eShaperW (args : Array Value) (W : World) : (callFunc 189 args).run Tryz.prog W = .ok (.enter 189 args) W := enters_of Tryz.func189 (by kernel_rfl) rfl args W
theorem eShaperL (args : Array Value) (W : World) : (callFunc 186 args).run Tryz.prog W = .ok (.enter 186 args) W := enters_of Tryz.func186 (by kernel_rfl) rfl args W
theorem eShaperB (args : Array Value) (W : World) : (callFunc 185 args).run Tryz.prog W = .ok (.enter 185 args) W := enters_of Tryz.func185 (by kernel_rfl) rfl args W

/-- A shaper in block B over a queue. -/
def ShaperM (M : QM) (B : Nat) (n t R : Int) : QM where
  σ := ShS M.σ
  ty := 131
  rv := .pointer (some ⟨B, 0, none⟩)
  fP := 187
  fT := 188
  fW := 189
  fL := 186
  fB := 185
  rP := .pointer (some ⟨B, 0, none⟩)
  rT := .pointer (some ⟨B, 0, none⟩)
  rW := .pointer (some ⟨B, 0, none⟩)
  rL := .pointer (some ⟨B, 0, none⟩)
  rB := .pointer (some ⟨B, 0, none⟩)
  At := fun w G s => ∃ F nx, ShAt M B n t R w F s nx ∧ ∀ k, G k ↔ k = B ∨ F k
  put := fun s now x => putS R s now x
  take := fun s now => takeS n t R s now
  when := fun s now => whenS n t R s now
  len := fun s => lenS s
  bytes := fun s => bytesS s
  inv := fun tt nn s => ShI M n t R tt nn s
theorem LookP.at {M : QM} {B : Nat} {n t R : Int} {F G : Nat → Prop} {w w' : World} {s : ShS M.σ} (h : LookP M B n t R F w s w') (hG : ∀ k, G k ↔ k = B ∨ F k) : ∃ G', (ShaperM M B n t R).At w' G' s ∧ (∀ k, G' k → G k ∨ w.heap.size ≤ k) ∧ Ot G w w' := by
  obtain ⟨F', nx, h1, h2⟩ := h.ex
  refine ⟨fun k => k = B ∨ F' k, ⟨F', nx, h1, fun _ => Iff.rfl⟩, fun k hk => ?_, h.ot.mono (fun k _ hk => (hG k).2 hk)⟩
  rcases hk with hk | hk
  · exact Or.inl ((hG k).2 (Or.inl hk))
  · rcases h2 k hk with h | h
    · exact Or.inl ((hG k).2 (Or.inr h))
    · exact Or.inr h
theorem drw_room {t R lev x : Int} (h0 : 0 ≤ lev) (h1 : lev ≤ R * t) (hx : 0 ≤ x * t) : 0 ≤ drw t lev x ∧ drw t lev x ≤ R * t := by
  unfold drw
  split <;> omega
theorem takeS_none {M : QM} {n t R : Int} (s : ShS M.σ) (now : Int) : (takeS n t R s now).2.1 = [] := by
  unfold takeS
  split
  · rfl
  · split <;> rfl
theorem shaperM_fine {M : QM} (hM : M.Calm) (B : Nat) {n t R : Int} (hb : okB n t R) : (ShaperM M B n t R).Fine where
  kept := by
    rintro w w' G s ⟨F, nx, h, hG⟩ hk
    exact ⟨F, nx, h.kept hM (fun k hf => hk k ((hG k).2 hf)), hG⟩
  low := by
    rintro w G s ⟨F, nx, h, hG⟩ k hk
    exact h.low hM k ((hG k).1 hk)
  mP := mShaperP _
  mT := mShaperT _
  mW := mShaperW _
  mL := mShaperL _
  mB := mShaperB _
  eP := eShaperP
  eT := eShaperT
  eW := eShaperW
  eL := eShaperL
  eB := eShaperB
  cP := by
    rintro w G s tt nn now x ⟨F, nx, h, hG⟩ hI h0 h1 h2 hok hxa hxn hn
    refine (sput_any now x hM w h hI.q h0 h1 h2 hok hxa hxn hn).mono ?_
    rintro e w' ⟨u, rfl, hu, hl, hk⟩
    obtain ⟨G', g1, g2, g3⟩ := hl.at hG
    refine ⟨u, G', rfl, hu, g1, g2, fun k hk' => ?_, g3⟩
    rcases hk k hk' with h' | h'
    · exact Or.inl ((hG k).2 (Or.inr h'))
    · exact Or.inr h'
  iP := by
    intro (s : ShS M.σ) tt nn now x hI h0 h1 h2 hok hxa hxn hn
    show ShI M n t R now (nn + 1) (putS R s now x).1 ∧ (putS R s now x).2.length ≤ 1000000
    have hq := hM.fine.iP now x hI.q h0 h1 h2 hok hxa hxn hn
    unfold putS
    split
    · exact ⟨⟨hM.mono hI.q h1 (Nat.le_succ _), hI.l0, hI.l1, hI.t0, Int.le_trans hI.t1 h1, hI.held⟩, by simp⟩
    · exact ⟨⟨hq.1, hI.l0, hI.l1, hI.t0, Int.le_trans hI.t1 h1, hI.held⟩, hq.2⟩
  cT := by
    rintro w G s tt nn now ⟨F, nx, h, hG⟩ hI h0 h1 h2 hn
    refine (stake_any now hM hb w h hI h0 h1 h2 hn).mono ?_
    rintro e w' ⟨rfl, hT⟩
    obtain ⟨G', g1, g2, g3⟩ := hT.look.at hG
    exact ⟨_, G', rfl, by rw [show ((ShaperM M B n t R).take s now).2.1 = [] from takeS_none s now]; exact Hs.nil _, g1, g2, fun k hk => by simp [Value.ownBlock] at hk, g3⟩
  iT := by
    intro (s : ShS M.σ) tt nn now hI h0 h1 h2 hn
    show ShI M n t R now nn (takeS n t R s now).1 ∧ (takeS n t R s now).2.1.length ≤ 1000000
    refine ⟨?_, by rw [takeS_none]; simp⟩
    have hl := look_inv hM now hI h0 h1 h2 hn
    have hp := pas_room (n := n) (t := t) (R := R) (lat := s.lat) (now := now) hb.1.1 hI.l0 hI.l1
    have hla : 0 ≤ lat1 s.lat now ∧ lat1 s.lat now ≤ now := by have := hI.t0; have := hI.t1; unfold lat1; split <;> omega
    unfold takeS
    split
    · exact hl
    · rename_i x hx
      have hxl := ok_len (hl.held x hx)
      have hd := drw_room (t := t) (R := R) (x := x.l) hp.1 hp.2 (Int.mul_nonneg (by omega) (by have := hb.2.1; omega))
      split
      · exact ⟨hl.q, hd.1, hd.2, hla.1, hla.2, fun y hy => by simp at hy⟩
      · exact ⟨hl.q, hd.1, hd.2, hla.1, hla.2, hl.held⟩
  cW := by
    rintro w G s tt nn now ⟨F, nx, h, hG⟩ hI h0 h1 h2 hn
    refine (swhen_any now hM hb w h hI h0 h1 h2 hn).mono ?_
    rintro e w' ⟨rfl, hl⟩
    obtain ⟨G', g1, g2, g3⟩ := hl.at hG
    exact ⟨G', rfl, g1, g2, g3⟩
  iW := by
    intro (s : ShS M.σ) tt nn now hI h0 h1 h2 hn
    show ShI M n t R now nn (whenS n t R s now).1
    have hl := look_inv hM now hI h0 h1 h2 hn
    have hp := pas_room (n := n) (t := t) (R := R) (lat := s.lat) (now := now) hb.1.1 hI.l0 hI.l1
    have hla : 0 ≤ lat1 s.lat now ∧ lat1 s.lat now ≤ now := by have := hI.t0; have := hI.t1; unfold lat1; split <;> omega
    unfold whenS
    split
    · exact ⟨hM.fine.iW now hl.q (by omega) (Int.le_refl _) h2 hn, hl.l0, hl.l1, hl.t0, hl.t1, hl.held⟩
    · split
      · exact ⟨hl.q, hp.1, hp.2, hla.1, hla.2, hl.held⟩
      · exact ⟨hl.q, hp.1, hp.2, hla.1, hla.2, hl.held⟩
  cL := by
    rintro w G s tt nn ⟨F, nx, h, hG⟩ hI hn
    exact slen_any hM w h hI hn
  cB := by
    rintro w G s tt nn ⟨F, nx, h, hG⟩ hI hn
    exact sbytes_any hM w h hI hn
end Go.Proofs.YtfakjedolecdcaaGreatDoor
