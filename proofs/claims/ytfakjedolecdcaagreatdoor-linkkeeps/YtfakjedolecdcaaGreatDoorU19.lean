/-
  shaper.Shaper: what When, Len and Bytes return, and what they leave. Conditions: the queue's methods do what a model of it tells (a premise); a bucket that may be; a level within its room.
  A Shaper is a queue as plain.Play asks it: its model; shaper.New. Conditions: a bucket that may be; the queue's methods do what a model of it tells (a premise).
  shaper.Shaper over whatever queue, also one that throws away when it is asked: what is lost is kept till it is told; its cells in memory; within and look. Conditions: the queue's methods do what a model of it tells (a premise).
-/
import Derived.Test.YtfakjedolecdcaaGreatDoorU18
import Derived.Test.YtfakjedolecdcaaGreatDoorU14
import Derived.Test.YtfakjedolecdcaaGreatDoorU16
namespace Go.Proofs.YtfakjedolecdcaaGreatDoor
open Go.RowKit Go.Extern.Stop Go.Stop Go.Extern

theorem slen_any {M : QM} {B : Nat} {n t R : Int} {F : Nat → Prop} {s : ShS M.σ} {nx : Hd} {tt : Int} {nn : Nat} (hM : M.Calm) (w : World) (h : ShAt M B n t R w F s nx) (hI : ShI M n t R tt nn s) (hn : nn ≤ 1001) :
    Calls Tryz.prog 186 #[.pointer (some ⟨B, 0, none⟩)] w fun e w' => e = .returned (.int .i64 (lenS s)) ∧ Below w.heap.size w w' := by
  obtain ⟨_, _, _, c12, _⟩ := h.cells
  have HW := swithin_any w h
  have HCL := hM.fine.cL h.inner hI.q hn
  have hmL := hM.fine.mL
  have heL := hM.fine.eL
  obtain ⟨⟨hs0, hs1⟩, _⟩ := hM.small hI.q hn
  cases hh : s.hold with
  | none =>
    have HE : Hid (lenS s = M.len s.q) := by show _ = _; unfold lenS; rw [hh]
    rw [hh] at c12
    simp only [Option.isSome] at c12
    clear h hI hM
    go_enter Tryz.func186, Tryz.ntmps186
    go_wp2_with fail
    refine HW.mono ?_
    rintro e w0 ⟨rfl, rfl⟩
    go_wp2_with fail
    refine HCL.mono ?_
    rintro e w1 ⟨rfl, hb1⟩
    go_wp2
    go_ret
    exact ⟨by rw [HE.out]; rfl, hb1⟩
  | some x =>
    have HE : Hid (lenS s = M.len s.q + 1) := by show _ = _; unfold lenS; rw [hh]
    rw [hh] at c12
    simp only [Option.isSome] at c12
    clear h hI hM
    go_enter Tryz.func186, Tryz.ntmps186
    go_wp2_with fail
    refine HW.mono ?_
    rintro e w0 ⟨rfl, rfl⟩
    go_wp2_with fail
    refine HCL.mono ?_
    rintro e w1 ⟨rfl, hb1⟩
    go_wp2
    go_ret
    exact ⟨by rw [HE.out]; rfl, hb1⟩
set_option maxRecDepth 20000 in
set_option maxHeartbeats 1000000 in
theorem sbytes_any {M : QM} {B : Nat} {n t R : Int} {F : Nat → Prop} {s : ShS M.σ} {nx : Hd} {tt : Int} {nn : Nat} (hM : M.Calm) (w : World) (h : ShAt M B n t R w F s nx) (hI : ShI M n t R tt nn s) (hn : nn ≤ 1001) :
    Calls Tryz.prog 185 #[.pointer (some ⟨B, 0, none⟩)] w fun e w' => e = .returned (.int .i64 (bytesS s)) ∧ Below w.heap.size w w' := by
  obtain ⟨_, _, ⟨_, c7, _⟩, c12, _⟩ := h.cells
  have hB := h.blk.lt
  have HW : Hid (∀ W : World, W.heap[B]? = w.heap[B]? → M.At W F s.q → Calls Tryz.prog 190 #[.pointer (some ⟨B, 0, none⟩)] W fun e w' => e = .returned (.iface M.ty M.rv) ∧ w' = W) := fun W h1 h2 => swithin_any W ⟨h.blk.same h1, h2, h.out, h.eq⟩
  have HCB : Hid (∀ W : World, M.At W F s.q → Calls Tryz.prog M.fB #[M.rB] W fun e w' => e = .returned (.int .i64 (M.bytes s.q)) ∧ Below W.heap.size W w') := fun W h1 => hM.fine.cB h1 hI.q hn
  have HAT : Hid (∀ W : World, (∀ k, F k → W.heap[k]? = w.heap[k]?) → M.At W F s.q) := fun W h1 => hM.fine.kept h.inner h1
  have hmB := hM.fine.mB
  have heB := hM.fine.eB
  obtain ⟨_, hs0, hs1⟩ := hM.small hI.q hn
  cases hh : s.hold with
  | none =>
    have HE : Hid (bytesS s = M.bytes s.q) := by show _ = _; unfold bytesS; rw [hh]
    rw [hh] at c12
    simp only [Option.isSome] at c12
    clear h hI hM
    go_enter Tryz.func185, Tryz.ntmps185
    go_wp2_with fail
    refine (HW.out w rfl (HAT.out w (fun _ _ => rfl))).mono ?_
    rintro e w0 ⟨rfl, rfl⟩
    go_wp2_with fail
    refine (HCB.out w0 (HAT.out w0 (fun _ _ => rfl))).mono ?_
    rintro e w1 ⟨rfl, hb1⟩
    go_wp2
    go_ret
    exact ⟨by rw [HE.out]; rfl, hb1⟩
  | some x =>
    have hxl := ok_len (hI.held x hh)
    obtain rfl := h.eq x hh
    have HE : Hid (bytesS s = M.bytes s.q + nx.l) := by show _ = _; unfold bytesS; rw [hh]
    have HC7 : Hid (∀ W : World, W.heap[B]? = w.heap[B]? → W.cell? ⟨B, 7, none⟩ = some (.int .i64 nx.l)) := fun W hW => (World.cell?_of_block (w := w) hW).trans c7
    rw [hh] at c12
    simp only [Option.isSome] at c12
    have hwr : IntKind.i64.wrap (M.bytes s.q + nx.l) = M.bytes s.q + nx.l := by rw [IntKind.wrap_i64]; omega
    clear h hI hM hs0 hs1 hxl
    go_enter Tryz.func185, Tryz.ntmps185
    go_wp2
    go_region_held3 (fun W => W.cell? ⟨B, 7, none⟩ = some (.int .i64 nx.l)) (first | exact HC7.out _ (hb1.block B (by exact hB)) | (refine HC7.out _ ?_; rfl)) (first | (go_at_call 190; refine (HW.out _ ?_ (HAT.out _ ?_)).mono ?_; rfl; exact fun _ _ => rfl; rintro e w0 ⟨rfl, rfl⟩) | (refine (HCB.out _ (HAT.out _ ?_)).mono ?_; exact fun _ _ => rfl; rintro e w1 ⟨rfl, hb1⟩))
    all_goals
      go_wp2
      go_ret
      exact ⟨by rw [HE.out]; rfl, (Below.refl w.heap.size w).drew.trans hb1⟩
set_option maxHeartbeats 2000000 in
theorem swhen_any {M : QM} {B : Nat} {n t R : Int} {F : Nat → Prop} {s : ShS M.σ} {nx : Hd} {tt : Int} {nn : Nat} (now : Int) (hM : M.Calm) (hb : okB n t R) (w : World) (h : ShAt M B n t R w F s nx) (hI : ShI M n t R tt nn s) (h0 : 0 ≤ tt) (h1 : tt ≤ now) (h2 : now ≤ 20000000) (hn : nn ≤ 1000) :
    Calls Tryz.prog 189 #[.pointer (some ⟨B, 0, none⟩), .int .i64 now] w fun e w' => e = .returned (.tuple #[.int .i64 (whenS n t R s now).2.1, .bool (whenS n t R s now).2.2]) ∧ LookP M B n t R F w (whenS n t R s now).1 w' := by
  have HM : Hid M.Calm := hM
  have HI2 : Hid (ShI M n t R now nn (lookS s now)) := look_inv hM now hI h0 h1 h2 hn
  have HLK := look_any now hM w h hI.q h0 h1 h2 hn
  have HE : Hid ((lookS s now).lev = s.lev ∧ (lookS s now).lat = s.lat) := lookS_same s now
  have HTS : Hid (whenS n t R s now = match (lookS s now).hold with
    | none => ({ lookS s now with q := (M.when (lookS s now).q now).1 }, (M.when (lookS s now).q now).2.1, (M.when (lookS s now).q now).2.2)
    | some x => if x.l ≤ R then ({ lookS s now with lev := pas n t R s.lev s.lat now, lat := lat1 s.lat now }, whn n t (pas n t R s.lev s.lat now) (lat1 s.lat now) x.l, true) else ({ lookS s now with lev := pas n t R s.lev s.lat now, lat := lat1 s.lat now }, 0, false)) := rfl
  obtain ⟨s1, hs1⟩ : ∃ s1, lookS s now = s1 := ⟨_, rfl⟩
  obtain ⟨r, hr⟩ : ∃ r, whenS n t R s now = r := ⟨_, rfl⟩
  rw [hs1] at HI2 HLK HE HTS
  rw [hr] at HTS ⊢
  have HB : Hid (okB n t R) := hb
  have HNN : Hid (0 ≤ now ∧ now ≤ 20000000 ∧ nn ≤ 1000) := ⟨by omega, h2, hn⟩
  clear hs1 hr h hM hI hb
  go_enter Tryz.func189, Tryz.ntmps189
  go_wp2_with fail
  refine HLK.mono ?_
  rintro e w1 ⟨rfl, hl1⟩
  clear HLK
  have HOT1 : Hid (Ot (fun k => k = B ∨ F k) w w1) := hl1.ot
  obtain ⟨F1, nx1, hA1, hF1⟩ := hl1.ex
  have HF1 : Hid (∀ k, F1 k → F k ∨ w.heap.size ≤ k) := hF1
  have HA1 : Hid (ShAt M B n t R w1 F1 s1 nx1) := hA1
  obtain ⟨c0, c3, ⟨d6, d7, d8, d9, d10, d11⟩, c12, c13, ⟨f6, f7, f8, f9, f10, f11⟩, f12, f13⟩ := hA1.cells
  have hB1 := hA1.blk.lt
  clear hA1 hF1 hl1
  cases hh : s1.hold with
  | none =>
    rw [hh] at c12
    simp only [Option.isSome] at c12
    have HTS2 : Hid (r = ({ s1 with q := (M.when s1.q now).1 }, (M.when s1.q now).2.1, (M.when s1.q now).2.2)) := by
      show _ = _
      rw [show r = _ from HTS.out, hh]
    have hmW := HM.out.fine.mW
    have heW := HM.out.fine.eW
    have HW := swithin_any w1 HA1.out
    have HCW := HM.out.fine.cW now HA1.out.inner HI2.out.q HNN.out.1 (Int.le_refl _) HNN.out.2.1 HNN.out.2.2
    clear HTS hh
    go_wp2_with fail
    refine HW.mono ?_
    rintro e w2 ⟨rfl, rfl⟩
    go_wp2_with fail
    refine HCW.mono ?_
    rintro e w3 ⟨F3, rfl, ha3, hf3, ho3⟩
    go_wp2
    go_ret2
    have hnb : ¬ F3 B := by
      intro hb'
      rcases hf3 B hb' with h' | h'
      · exact HA1.out.out h'
      · omega
    refine ⟨by rw [HTS2.out]; rfl, ?_⟩
    rw [HTS2.out]
    refine ⟨⟨F3, nx1, ⟨HA1.out.blk.same (ho3.block B hB1 HA1.out.out), ha3, hnb, HA1.out.eq⟩, fun k hk => ?_⟩, HOT1.out.trans' ho3 (fun k hk hkl => ?_)⟩
    · rcases hf3 k hk with h' | h'
      · exact HF1.out k h'
      · right; have := HOT1.out.size; omega
    · rcases HF1.out k hk with h' | h'
      · exact Or.inr h'
      · omega
  | some x =>
    obtain rfl := HA1.out.eq x hh
    rw [hh] at c12
    simp only [Option.isSome] at c12
    have hxl := ok_len (HI2.out.held _ hh)
    have HC7 : Hid (∀ W : World, W.heap[B]? = w1.heap[B]? → W.cell? ⟨B, 7, none⟩ = some (.int .i64 nx1.l)) := fun W hW => (World.cell?_of_block (w := w1) hW).trans d7
    have HHH : Hid (s1.hold = some nx1) := hh
    have HTK : Hid (∀ W : World, W.heap[B]? = w1.heap[B]? → Calls Tryz.prog 193 #[.pointer (some ⟨B, 1, none⟩), .int .i64 now, .int .i64 nx1.l] W fun e w' => e = .returned (.tuple #[.int .i64 r.2.1, .bool r.2.2]) ∧ StG w' B 1 [.iface M.ty M.rv] (shPost nx1 true) 171 n t R (pas n t R s.lev s.lat now) (lat1 s.lat now) ∧ Oth (· = B) W w') := by
      intro W hW
      have hst := HA1.out.blk.same hW
      have hi := HI2.out
      have hnn := HNN.out
      rw [HE.out.1, HE.out.2, hh] at hst
      have e1 : r = _ := HTS.out
      rw [hh] at e1
      simp only at e1
      by_cases hr : nx1.l ≤ R
      · rw [if_pos hr] at e1
        rw [e1]
        exact when_yes now nx1.l W hst HB.out (by rw [← HE.out.1]; exact hi.l0) (by rw [← HE.out.1]; exact hi.l1) (by rw [← HE.out.2]; exact hi.t0) (by rw [← HE.out.2]; have := hi.t1; omega) (by omega) (by omega) hr
      · rw [if_neg hr] at e1
        rw [e1]
        exact when_no now nx1.l W hst HB.out (by rw [← HE.out.1]; exact hi.l0) (by rw [← HE.out.1]; exact hi.l1) (by rw [← HE.out.2]; exact hi.t0) (by omega) (by omega) (by omega)
    have HR1 : Hid (r.1 = { q := s1.q, lev := pas n t R s.lev s.lat now, lat := lat1 s.lat now, hold := some nx1 }) := by
      show _ = _
      have e1 : r = _ := HTS.out
      rw [hh] at e1
      simp only at e1
      split at e1 <;> (rw [e1])
    clear HTS hh hxl
    obtain ⟨ra, ro, rb⟩ := r
    simp only at HTK HR1 ⊢
    go_wp2
    go_region_held3 (fun W => W.cell? ⟨B, 7, none⟩ = some (.int .i64 nx1.l)) (first | exact e7 | (refine HC7.out _ ?_; rfl)) ((go_at_call 193; refine (HTK.out _ ?_).mono ?_; rfl; rintro e w3 ⟨rfl, hst3, ho3⟩; have HOT3 : Hid (Ot (fun k => k = B ∨ F k) w w3) := HOT1.out.trans' (c := w3) (T := (· = B)) (by exact ⟨ho3.os, ho3.tape, ho3.output, ho3.size, ho3.block⟩) (fun k e _ => Or.inl e); have hA3 : ShAt M B n t R w3 F1 { q := s1.q, lev := pas n t R s.lev s.lat now, lat := lat1 s.lat now, hold := some nx1 } nx1 := ⟨hst3, HM.out.fine.kept HA1.out.inner (fun k hk => (ho3.block k (by exact HM.out.fine.low HA1.out.inner k hk) (fun e => HA1.out.out (by rw [← e]; exact hk)))), HA1.out.out, fun y hy => by simpa using hy⟩; have HA3 : Hid (ShAt M B n t R w3 F1 { q := s1.q, lev := pas n t R s.lev s.lat now, lat := lat1 s.lat now, hold := some nx1 } nx1) := hA3; obtain ⟨k0, k3, ⟨e6, e7, e8, e9, e10, e11⟩, k12, k13, _⟩ := hA3.cells; clear hA3 hst3 ho3))
    all_goals
      go_wp2
      go_ret2
      refine ⟨rfl, ?_⟩
      rw [HR1.out]
      exact ⟨⟨F1, nx1, HA3.out, HF1.out⟩, HOT3.out⟩
end Go.Proofs.YtfakjedolecdcaaGreatDoor
namespace Go.Proofs.YtfakjedolecdcaaGreatDoor
open Go.RowKit Go.Extern.Stop Go.Stop Go.Extern

theorem mShaperP (b : Nat) (W : World) : (Go.method 395 131 (.pointer (some ⟨b, 0, none⟩)) "Put").run Tryz.prog W = .ok (187, .pointer (some ⟨b, 0, none⟩)) W := by kernel_rfl
theorem mShaperT (b : Nat) (W : World) : (Go.method 395 131 (.pointer (some ⟨b, 0, none⟩)) "Take").run Tryz.prog W = .ok (188, .pointer (some ⟨b, 0, none⟩)) W := by kernel_rfl
theorem mShaperW (b : Nat) (W : World) : (Go.method 395 131 (.pointer (some ⟨b, 0, none⟩)) "When").run Tryz.prog W = .ok (189, .pointer (some ⟨b, 0, none⟩)) W := by kernel_rfl
theorem mShaperL (b : Nat) (W : World) : (Go.method 395 131 (.pointer (some ⟨b, 0, none⟩)) "Len").run Tryz.prog W = .ok (186, .pointer (some ⟨b, 0, none⟩)) W := by kernel_rfl
theorem mShaperB (b : Nat) (W : World) : (Go.method 395 131 (.pointer (some ⟨b, 0, none⟩)) "Bytes").run Tryz.prog W = .ok (185, .pointer (some ⟨b, 0, none⟩)) W := by kernel_rfl
theorem eShaperP (args : Array Value) (W : World) : (callFunc 187 args).run Tryz.prog W = .ok (.enter 187 args) W := enters_of Tryz.func187 (by kernel_rfl) rfl args W
theorem eShaperT (args : Array Value) (W : World) : (callFunc 188 args).run Tryz.prog W = .ok (.enter 188 args) W := enters_of Tryz.func188 (by kernel_rfl) rfl args W
theorem eShaperW (args : Array Value) (W : World) : (callFunc 189 args).run Tryz.prog W = .ok (.enter 189 args) W := enters_of Tryz.func189 (by kernel_rfl) rfl args W
theorem eShaperL (args : Array Value) (W : World) : (callFunc 186 args).run Tryz.prog W = .ok (.enter 186 args) W := enters_of Tryz.func186 (by kernel_rfl) rfl args W
theorem eShaperB (args : Array Value) (W : World) : (callFunc 185 args).run Tryz.prog W = .ok (.enter 185 args) W := enters_of Tryz.func185 (by kernel_rfl) rfl args W

/-- A shaper in block B over a queue. -/
def ShaperM (M : QM) (B : Nat) (n t R : Int) : QM where
  σ := ShS M.σ
  ty := 131
  rv := .pointer (some ⟨B, 0, none⟩)
  fP := 187
  fT := 188
  fW := 189
  fL := 186
  fB := 185
  rP := .pointer (some ⟨B, 0, none⟩)
  rT := .pointer (some ⟨B, 0, none⟩)
  rW := .pointer (some ⟨B, 0, none⟩)
  rL := .pointer (some ⟨B, 0, none⟩)
  rB := .pointer (some ⟨B, 0, none⟩)
  At := fun w G s => ∃ F nx, ShAt M B n t R w F s nx ∧ ∀ k, G k ↔ k = B ∨ F k
  put := fun s now x => putS R s now x
  take := fun s now => takeS n t R s now
  when := fun s now => whenS n t R s now
  len := fun s => lenS s
  bytes := fun s => bytesS s
  inv := fun tt nn s => ShI M n t R tt nn s
theorem LookP.at {M : QM} {B : Nat} {n t R : Int} {F G : Nat → Prop} {w w' : World} {s : ShS M.σ} (h : LookP M B n t R F w s w') (hG : ∀ k, G k ↔ k = B ∨ F k) : ∃ G', (ShaperM M B n t R).At w' G' s ∧ (∀ k, G' k → G k ∨ w.heap.size ≤ k) ∧ Ot G w w' := by
  obtain ⟨F', nx, h1, h2⟩ := h.ex
  refine ⟨fun k => k = B ∨ F' k, ⟨F', nx, h1, fun _ => Iff.rfl⟩, fun k hk => ?_, h.ot.mono (fun k _ hk => (hG k).2 hk)⟩
  rcases hk with hk | hk
  · exact Or.inl ((hG k).2 (Or.inl hk))
  · rcases h2 k hk with h | h
    · exact Or.inl ((hG k).2 (Or.inr h))
    · exact Or.inr h
theorem drw_room {t R lev x : Int} (h0 : 0 ≤ lev) (h1 : lev ≤ R * t) (hx : 0 ≤ x * t) : 0 ≤ drw t lev x ∧ drw t lev x ≤ R * t := by
  unfold drw
  split <;> omega
theorem takeS_none {M : QM} {n t R : Int} (s : ShS M.σ) (now : Int) : (takeS n t R s now).2.1 = [] := by
  unfold takeS
  split
  · rfl
  · split <;> rfl
theorem shaperM_fine {M : QM} (hM : M.Calm) (B : Nat) {n t R : Int} (hb : okB n t R) : (ShaperM M B n t R).Fine where
  kept := by
    rintro w w' G s ⟨F, nx, h, hG⟩ hk
    exact ⟨F, nx, h.kept hM (fun k hf => hk k ((hG k).2 hf)), hG⟩
  low := by
    rintro w G s ⟨F, nx, h, hG⟩ k hk
    exact h.low hM k ((hG k).1 hk)
  mP := mShaperP _
  mT := mShaperT _
  mW := mShaperW _
  mL := mShaperL _
  mB := mShaperB _
  eP := eShaperP
  eT := eShaperT
  eW := eShaperW
  eL := eShaperL
  eB := eShaperB
  cP := by
    rintro w G s tt nn now x ⟨F, nx, h, hG⟩ hI h0 h1 h2 hok hxa hxn hn
    refine (sput_any now x hM w h hI.q h0 h1 h2 hok hxa hxn hn).mono ?_
    rintro e w' ⟨u, rfl, hu, hl, hk⟩
    obtain ⟨G', g1, g2, g3⟩ := hl.at hG
    refine ⟨u, G', rfl, hu, g1, g2, fun k hk' => ?_, g3⟩
    rcases hk k hk' with h' | h'
    · exact Or.inl ((hG k).2 (Or.inr h'))
    · exact Or.inr h'
  iP := by
    intro (s : ShS M.σ) tt nn now x hI h0 h1 h2 hok hxa hxn hn
    show ShI M n t R now (nn + 1) (putS R s now x).1 ∧ (putS R s now x).2.length ≤ 1000000
    have hq := hM.fine.iP now x hI.q h0 h1 h2 hok hxa hxn hn
    unfold putS
    split
    · exact ⟨⟨hM.mono hI.q h1 (Nat.le_succ _), hI.l0, hI.l1, hI.t0, Int.le_trans hI.t1 h1, hI.held⟩, by simp⟩
    · exact ⟨⟨hq.1, hI.l0, hI.l1, hI.t0, Int.le_trans hI.t1 h1, hI.held⟩, hq.2⟩
  cT := by
    rintro w G s tt nn now ⟨F, nx, h, hG⟩ hI h0 h1 h2 hn
    refine (stake_any now hM hb w h hI h0 h1 h2 hn).mono ?_
    rintro e w' ⟨rfl, hT⟩
    obtain ⟨G', g1, g2, g3⟩ := hT.look.at hG
    exact ⟨_, G', rfl, by rw [show ((ShaperM M B n t R).take s now).2.1 = [] from takeS_none s now]; exact Hs.nil _, g1, g2, fun k hk => by simp [Value.ownBlock] at hk, g3⟩
  iT := by
    intro (s : ShS M.σ) tt nn now hI h0 h1 h2 hn
    show ShI M n t R now nn (takeS n t R s now).1 ∧ (takeS n t R s now).2.1.length ≤ 1000000
    refine ⟨?_, by rw [takeS_none]; simp⟩
    have hl := look_inv hM now hI h0 h1 h2 hn
    have hp := pas_room (n := n) (t := t) (R := R) (lat := s.lat) (now := now) hb.1.1 hI.l0 hI.l1
    have hla : 0 ≤ lat1 s.lat now ∧ lat1 s.lat now ≤ now := by have := hI.t0; have := hI.t1; unfold lat1; split <;> omega
    unfold takeS
    split
    · exact hl
    · rename_i x hx
      have hxl := ok_len (hl.held x hx)
      have hd := drw_room (t := t) (R := R) (x := x.l) hp.1 hp.2 (Int.mul_nonneg (by omega) (by have := hb.2.1; omega))
      split
      · exact ⟨hl.q, hd.1, hd.2, hla.1, hla.2, fun y hy => by simp at hy⟩
      · exact ⟨hl.q, hd.1, hd.2, hla.1, hla.2, hl.held⟩
  cW := by
    rintro w G s tt nn now ⟨F, nx, h, hG⟩ hI h0 h1 h2 hn
    refine (swhen_any now hM hb w h hI h0 h1 h2 hn).mono ?_
    rintro e w' ⟨rfl, hl⟩
    obtain ⟨G', g1, g2, g3⟩ := hl.at hG
    exact ⟨G', rfl, g1, g2, g3⟩
  iW := by
    intro (s : ShS M.σ) tt nn now hI h0 h1 h2 hn
    show ShI M n t R now nn (whenS n t R s now).1
    have hl := look_inv hM now hI h0 h1 h2 hn
    have hp := pas_room (n := n) (t := t) (R := R) (lat := s.lat) (now := now) hb.1.1 hI.l0 hI.l1
    have hla : 0 ≤ lat1 s.lat now ∧ lat1 s.lat now ≤ now := by have := hI.t0; have := hI.t1; unfold lat1; split <;> omega
    unfold whenS
    split
    · exact ⟨hM.fine.iW now hl.q (by omega) (Int.le_refl _) h2 hn, hl.l0, hl.l1, hl.t0, hl.t1, hl.held⟩
    · split
      · exact ⟨hl.q, hp.1, hp.2, hla.1, hla.2, hl.held⟩
      · exact ⟨hl.q, hp.1, hp.2, hla.1, hla.2, hl.held⟩
  cL := by
    rintro w G s tt nn ⟨F, nx, h, hG⟩ hI hn
    exact slen_any hM w h hI hn
  cB := by
    rintro w G s tt nn ⟨F, nx, h, hG⟩ hI hn
    exact sbytes_any hM w h hI hn
end Go.Proofs.YtfakjedolecdcaaGreatDoor
namespace Go.Proofs.YtfakjedolecdcaaGreatDoor
open Go.RowKit Go.Extern.Stop Go.Stop Go.Extern

/-- A shaper's state: its queue's, the level, the latest time, what it holds, what is lost and not told. -/
structure SgS (α : Type) where
  q : α
  lev : Int
  lat : Int
  hold : Option Hd
  lost : List Hd
def sgPost (nx : Hd) (h : Bool) (lv : Value) : List Value := [.int .i64 nx.a, .int .i64 nx.l, .int .i64 nx.f, .int .i64 nx.b, .int .i64 nx.m, .int .i64 nx.n, .bool h, lv]
structure SgAt (M : QM) (B : Nat) (n t R : Int) (w : World) (F : Nat → Prop) (s : SgS M.σ) (nx : Hd) (lv : Value) : Prop where
  blk : StG w B 1 [.iface M.ty M.rv] (sgPost nx s.hold.isSome lv) 171 n t R s.lev s.lat
  inner : M.At w F s.q
  out : ¬ F B
  eq : ∀ x, s.hold = some x → nx = x
  lost : Hs w lv s.lost
  own : ∀ k, lv.ownBlock = some k → ¬ F k ∧ k ≠ B
/-- Its memory. -/
def sgF (B : Nat) (F : Nat → Prop) (lv : Value) (k : Nat) : Prop := k = B ∨ F k ∨ lv.ownBlock = some k
theorem SgAt.kept {M : QM} {B : Nat} {n t R : Int} {w w' : World} {F : Nat → Prop} {s : SgS M.σ} {nx : Hd} {lv : Value} (hM : M.Fine) (h : SgAt M B n t R w F s nx lv) (hk : ∀ k, sgF B F lv k → w'.heap[k]? = w.heap[k]?) : SgAt M B n t R w' F s nx lv :=
  ⟨h.blk.same (hk B (Or.inl rfl)), hM.kept h.inner (fun k hf => hk k (Or.inr (Or.inl hf))), h.out, h.eq, Seg.kept h.lost (fun k e => hk k (Or.inr (Or.inr e))), h.own⟩
theorem SgAt.low {M : QM} {B : Nat} {n t R : Int} {w : World} {F : Nat → Prop} {s : SgS M.σ} {nx : Hd} {lv : Value} (hM : M.Fine) (h : SgAt M B n t R w F s nx lv) : ∀ k, sgF B F lv k → k < w.heap.size := by
  rintro k (rfl | hk | hk)
  · exact h.blk.lt
  · exact hM.low h.inner k hk
  · exact Seg.lt h.lost hk
theorem SgAt.below {M : QM} {B : Nat} {n t R : Int} {w w' : World} {F : Nat → Prop} {s : SgS M.σ} {nx : Hd} {lv : Value} (hM : M.Fine) (h : SgAt M B n t R w F s nx lv) (hb : Below w.heap.size w w') : SgAt M B n t R w' F s nx lv := h.kept hM (fun k hk => hb.block k (h.low hM k hk))
theorem SgAt.ot {M : QM} {B : Nat} {n t R : Int} {w w' : World} {F S : Nat → Prop} {s : SgS M.σ} {nx : Hd} {lv : Value} (hM : M.Fine) (h : SgAt M B n t R w F s nx lv) (ho : Ot S w w') (hS : ∀ k, sgF B F lv k → ¬ S k) : SgAt M B n t R w' F s nx lv := h.kept hM (fun k hk => ho.block k (h.low hM k hk) (hS k hk))
theorem sg_cells {w : World} {B : Nat} {n t R lev lat : Int} {i lv : Value} {nx : Hd} {ok : Bool} (hb : StG w B 1 [i] (sgPost nx ok lv) 171 n t R lev lat) : w.cell? ⟨B, 0, none⟩ = some i ∧ w.cell? ⟨B, 3, none⟩ = some (.int .i64 R) ∧ (w.cell? ⟨B, 6, none⟩ = some (.int .i64 nx.a) ∧ w.cell? ⟨B, 7, none⟩ = some (.int .i64 nx.l) ∧ w.cell? ⟨B, 8, none⟩ = some (.int .i64 nx.f) ∧ w.cell? ⟨B, 9, none⟩ = some (.int .i64 nx.b) ∧ w.cell? ⟨B, 10, none⟩ = some (.int .i64 nx.m) ∧ w.cell? ⟨B, 11, none⟩ = some (.int .i64 nx.n)) ∧ w.cell? ⟨B, 12, none⟩ = some (.bool ok) ∧ w.cell? ⟨B, 13, none⟩ = some lv ∧
    (w.frozen? ⟨B, 6, none⟩ = false ∧ w.frozen? ⟨B, 7, none⟩ = false ∧ w.frozen? ⟨B, 8, none⟩ = false ∧ w.frozen? ⟨B, 9, none⟩ = false ∧ w.frozen? ⟨B, 10, none⟩ = false ∧ w.frozen? ⟨B, 11, none⟩ = false) ∧ w.frozen? ⟨B, 12, none⟩ = false ∧ w.frozen? ⟨B, 13, none⟩ = false := by
  have hb := hb.2
  refine ⟨?_, ?_, ⟨?_, ?_, ?_, ?_, ?_, ?_⟩, ?_, ?_, ⟨?_, ?_, ?_, ?_, ?_, ?_⟩, ?_, ?_⟩
  all_goals simp [World.cell?, World.frozen?, hb, sgPost]
/-- What it holds when it is asked. -/
def lookG {M : QM} (s : SgS M.σ) (now : Int) : SgS M.σ := match s.hold with
  | some _ => s
  | none => { s with q := (M.take s.q now).1, hold := if (M.take s.q now).2.2.2 = true then some (M.take s.q now).2.2.1 else none, lost := s.lost ++ (M.take s.q now).2.1 }
theorem gwithin_any {M : QM} {B : Nat} {n t R : Int} {F : Nat → Prop} {s : SgS M.σ} {nx : Hd} {lv : Value} (w : World) (h : SgAt M B n t R w F s nx lv) :
    Calls Tryz.prog 190 #[.pointer (some ⟨B, 0, none⟩)] w fun e w' => e = .returned (.iface M.ty M.rv) ∧ w' = w := by
  obtain ⟨c0, _⟩ := sg_cells h.blk
  clear h
  go_enter Tryz.func190, Tryz.ntmps190
  go_wp2
  go_ret
  exact ⟨rfl, rfl⟩
/-- What it holds is written. -/
theorem sg_next {w1 : World} {B : Nat} {n t R lev lat : Int} {i lv : Value} {nx : Hd} {h : Bool} (hb : StG w1 B 1 [i] (sgPost nx h lv) 171 n t R lev lat) (x1 : Hd) (ok1 : Bool) :
    StG ((((((((w1.setCell ⟨B, 6, none⟩ (.int .i64 x1.a)).setCell ⟨B, 7, none⟩ (.int .i64 x1.l)).setCell ⟨B, 8, none⟩ (.int .i64 x1.f)).setCell ⟨B, 9, none⟩ (.int .i64 x1.b)).setCell ⟨B, 10, none⟩ (.int .i64 x1.m)).setCell ⟨B, 11, none⟩ (.int .i64 x1.n)).setCell ⟨B, 12, none⟩ (.bool ok1))) B 1 [i] (sgPost x1 ok1 lv) 171 n t R lev lat := by
  have h6 := heap_setCell_here hb.2 (o := 6) (.int .i64 x1.a)
  have h7 := heap_setCell_here h6 (o := 7) (.int .i64 x1.l)
  have h8 := heap_setCell_here h7 (o := 8) (.int .i64 x1.f)
  have h9 := heap_setCell_here h8 (o := 9) (.int .i64 x1.b)
  have h10 := heap_setCell_here h9 (o := 10) (.int .i64 x1.m)
  have h11 := heap_setCell_here h10 (o := 11) (.int .i64 x1.n)
  have h12 := heap_setCell_here h11 (o := 12) (.bool ok1)
  refine ⟨rfl, h12.trans ?_⟩
  simp [sgPost]
theorem sg_ot {w1 : World} {B : Nat} (x1 : Hd) (ok1 : Bool) : Ot (· = B) w1 (((((((w1.setCell ⟨B, 6, none⟩ (.int .i64 x1.a)).setCell ⟨B, 7, none⟩ (.int .i64 x1.l)).setCell ⟨B, 8, none⟩ (.int .i64 x1.f)).setCell ⟨B, 9, none⟩ (.int .i64 x1.b)).setCell ⟨B, 10, none⟩ (.int .i64 x1.m)).setCell ⟨B, 11, none⟩ (.int .i64 x1.n)).setCell ⟨B, 12, none⟩ (.bool ok1)) := by
  repeat' (first | with_reducible exact Ot.refl _ _ | with_reducible refine Ot.setCell ?_ (by simp) _)
theorem sg_lost {w : World} {B : Nat} {n t R lev lat : Int} {i lv : Value} {nx : Hd} {h : Bool} (hb : StG w B 1 [i] (sgPost nx h lv) 171 n t R lev lat) (lv' : Value) : StG (w.setCell ⟨B, 13, none⟩ lv') B 1 [i] (sgPost nx h lv') 171 n t R lev lat := by
  refine ⟨rfl, (heap_setCell_here hb.2 (o := 13) lv').trans ?_⟩
  simp [sgPost]
theorem sg_holds {w : World} {B : Nat} {n t R lev lat : Int} {i lv : Value} {nx : Hd} {h : Bool} (hb : StG w B 1 [i] (sgPost nx h lv) 171 n t R lev lat) (h' : Bool) : StG (w.setCell ⟨B, 12, none⟩ (.bool h')) B 1 [i] (sgPost nx h' lv) 171 n t R lev lat := by
  refine ⟨rfl, (heap_setCell_here hb.2 (o := 12) (.bool h')).trans ?_⟩
  simp [sgPost]
/-- What look, and others, leave. -/
structure LookG (M : QM) (B : Nat) (n t R : Int) (G : Nat → Prop) (w : World) (s' : SgS M.σ) (w' : World) : Prop where
  ex : ∃ F' nx lv, SgAt M B n t R w' F' s' nx lv ∧ ∀ k, sgF B F' lv k → G k ∨ w.heap.size ≤ k
  ot : Ot G w w'
theorem LookG.after {M : QM} {B : Nat} {n t R : Int} {G : Nat → Prop} {w W w' : World} {s : SgS M.σ} (h : LookG M B n t R G W s w') (hb : Below w.heap.size w W) : LookG M B n t R G w s w' := by
  obtain ⟨F', nx, lv, h1, h2⟩ := h.ex
  refine ⟨⟨F', nx, lv, h1, fun k hk => ?_⟩, (Ot.of_below hb).trans h.ot⟩
  rcases h2 k hk with h | h
  · exact Or.inl h
  · right; have := hb.size; omega
theorem LookG.then {M : QM} {B : Nat} {n t R : Int} {G : Nat → Prop} {w w' w'' : World} {s : SgS M.σ} (hM : M.Fine) (h : LookG M B n t R G w s w') (hb : Below w'.heap.size w' w'') : LookG M B n t R G w s w'' := by
  obtain ⟨F', nx, lv, h1, h2⟩ := h.ex
  exact ⟨⟨F', nx, lv, h1.below hM hb, h2⟩, h.ot.then_below (hb.mono h.ot.size)⟩
/-- The end of look. -/
theorem sg_fin {M : QM} {B : Nat} {n t R : Int} (hM : M.Fine) {w w1 W w4 : World} {F F' : Nat → Prop} {s : SgS M.σ} {nx : Hd} {lv lv' : Value} {q1 : M.σ} {x1 : Hd} {ok1 : Bool} {l1 : List Hd} (h : SgAt M B n t R w F s nx lv) (ho : Ot F w w1) (hat : M.At w1 F' q1) (hf : ∀ k, F' k → F k ∨ w.heap.size ≤ k) (hW : Ot (· = B) w1 W) (hst : StG W B 1 [.iface M.ty M.rv] (sgPost x1 ok1 lv) 171 n t R s.lev s.lat) (hg : W.grownBy w4 lv.ownBlock) (hs : Hs w4 lv' (s.lost ++ l1)) (hn : ∀ k, lv'.ownBlock = some k → lv.ownBlock = some k ∨ W.heap.size ≤ k) :
    LookG M B n t R (sgF B F lv) w { s with q := q1, hold := if ok1 = true then some x1 else none, lost := s.lost ++ l1 } (w4.setCell ⟨B, 13, none⟩ lv') := by
  have hB := h.blk.lt
  have hs1 := ho.size
  have hs2 := hW.size
  have hl := fun k (e : lv.ownBlock = some k) => Seg.lt h.lost e
  have hlow := hM.low hat
  have hFl : ∀ k, F' k → lv.ownBlock = some k → False := fun k hk e => by
    rcases hf k hk with h' | h'
    · exact (h.own k e).1 h'
    · have := hl k e; omega
  have hFB : ¬ F' B := fun hb => by
    rcases hf B hb with h' | h'
    · exact h.out h'
    · omega
  have hvB : ∀ k, lv'.ownBlock = some k → ¬ F' k ∧ k ≠ B := fun k e => by
    rcases hn k e with h' | h'
    · exact ⟨fun hk => hFl k hk h', (h.own k h').2⟩
    · exact ⟨fun hk => by have := hlow k hk; omega, by omega⟩
  have hst4 : StG w4 B 1 [.iface M.ty M.rv] (sgPost x1 ok1 lv) 171 n t R s.lev s.lat := hst.same (hg.block B (by omega) (fun e => (h.own B e.symm).2 rfl))
  have hO4 : Ot (fun k => k = B ∨ lv.ownBlock = some k) w1 w4 := (hW.mono (fun k _ e => Or.inl e)).grown hg (fun k e => Or.inl (Or.inr e))
  have hO5 : Ot (fun k => k = B ∨ lv.ownBlock = some k) w1 (w4.setCell ⟨B, 13, none⟩ lv') := hO4.setCell (Or.inl (Or.inl rfl)) _
  refine ⟨⟨F', x1, lv', ⟨?_, ?_, hFB, ?_, ?_, hvB⟩, ?_⟩, ?_⟩
  · have := sg_lost hst4 lv'
    cases ok1 <;> exact this
  · exact hM.kept hat (fun k hk => hO5.block k (hlow k hk) (fun e => by
      rcases e with rfl | e
      · exact hFB hk
      · exact hFl k hk e))
  · intro x hx
    cases ok1 <;> simp at hx
    exact hx
  · exact Seg.setCell hs (fun e => (hvB _ e).2 rfl) _
  · intro k hk
    rcases hk with rfl | hk | hk
    · exact Or.inl (Or.inl rfl)
    · rcases hf k hk with h' | h'
      · exact Or.inl (Or.inr (Or.inl h'))
      · exact Or.inr h'
    · rcases hn k hk with h' | h'
      · exact Or.inl (Or.inr (Or.inr h'))
      · right; omega
  · exact (ho.mono (fun _ _ h' => Or.inr (Or.inl h'))).trans' hO5 (fun k e _ => by
      rcases e with e | e
      · exact Or.inl e
      · exact Or.inr (Or.inr e))
theorem glook_hold {M : QM} {B : Nat} {n t R : Int} {F : Nat → Prop} {s : SgS M.σ} {nx : Hd} {lv : Value} (now : Int) (w : World) (h : SgAt M B n t R w F s nx lv) (x : Hd) (hh : s.hold = some x) :
    Calls Tryz.prog 191 #[.pointer (some ⟨B, 0, none⟩), .int .i64 now] w fun e w' => e = .returned (.tuple #[]) ∧ w' = w := by
  obtain ⟨_, _, _, c12, _⟩ := sg_cells h.blk
  rw [hh] at c12
  simp only [Option.isSome] at c12
  clear h hh
  go_enter Tryz.func191, Tryz.ntmps191
  go_wp2
  (try simp only [Exit.inBlock, Exit.then])
  refine bodyPost_ret (results_none rfl _ _ _) rfl ?_
  exact ⟨rfl, rfl⟩
set_option maxHeartbeats 2000000 in
theorem glook_any {M : QM} {B : Nat} {n t R : Int} {F : Nat → Prop} {s : SgS M.σ} {nx : Hd} {lv : Value} {tt : Int} {nn : Nat} (now : Int) (hM : M.Fine) (w : World) (h : SgAt M B n t R w F s nx lv) (hI : M.inv tt nn s.q) (hl : s.lost.length ≤ 1001) (h0 : 0 ≤ tt) (h1 : tt ≤ now) (h2 : now ≤ 20000000) (hn : nn ≤ 1000) :
    Calls Tryz.prog 191 #[.pointer (some ⟨B, 0, none⟩), .int .i64 now] w fun e w' => e = .returned (.tuple #[]) ∧ LookG M B n t R (sgF B F lv) w (lookG s now) w' := by
  cases hh : s.hold with
  | some x =>
    refine (glook_hold now w h x hh).mono ?_
    rintro e w' ⟨rfl, rfl⟩
    have e1 : lookG s now = s := by unfold lookG; rw [hh]
    rw [e1]
    exact ⟨rfl, ⟨F, nx, lv, h, fun k hk => Or.inl hk⟩, Ot.refl _ _⟩
  | none =>
    have hmT := hM.mT
    have heT := hM.eT
    have HCT := hM.cT now h.inner hI h0 h1 h2 hn
    have hfew := (hM.iT now hI h0 h1 h2 hn).2
    have HL : Hid (lookG s now = { s with q := (M.take s.q now).1, hold := if (M.take s.q now).2.2.2 = true then some (M.take s.q now).2.2.1 else none, lost := s.lost ++ (M.take s.q now).2.1 }) := by
      show _ = _
      unfold lookG
      rw [hh]
    obtain ⟨⟨q1, l1, x1, ok1⟩, hTk⟩ : ∃ T, M.take s.q now = T := ⟨_, rfl⟩
    rw [hTk] at HCT hfew HL
    clear hTk
    obtain ⟨_, _, _, c12, _⟩ := sg_cells h.blk
    rw [hh] at c12
    simp only [Option.isSome] at c12
    have H : Hid (SgAt M B n t R w F s nx lv) := h
    have HM : Hid M.Fine := hM
    have HW := gwithin_any w h
    have hV := Hd.val_eq
    obtain ⟨i0, hi, hz0, hz1, hz2⟩ := info_parts infoHeld
    obtain ⟨na, hna⟩ : ∃ na, s.lost.length = na := ⟨_, rfl⟩
    have HNA : Hid (s.lost.length = na) := hna
    have hna1 : na ≤ 1001 := by omega
    obtain ⟨ux, ucap, hlv, huc⟩ := h.lost.shape'
    rw [hna] at hlv huc
    have HLV : Hid (lv = .slice ux na ucap) := hlv
    clear h hM hI hna hl hlv
    go_enter Tryz.func191, Tryz.ntmps191
    go_wp2_with fail
    refine HW.mono ?_
    rintro e w0 ⟨rfl, rfl⟩
    go_wp2_with fail
    refine HCT.mono ?_
    rintro e w1 ⟨u, F', rfl, hu, hat, hf, hk, ho⟩
    have HST : Hid (StG w1 B 1 [.iface M.ty M.rv] (sgPost nx s.hold.isSome lv) 171 n t R s.lev s.lat) := H.out.blk.same (ho.block B H.out.blk.lt H.out.out)
    have HAT : Hid (M.At w1 F' q1) := hat
    have HF : Hid (∀ k, F' k → F k ∨ w0.heap.size ≤ k) := hf
    have HO : Hid (Ot F w0 w1) := ho
    have HU : Hid (Hs w1 u l1) := hu
    have HKU : Hid (∀ k, u.ownBlock = some k → F k ∨ w0.heap.size ≤ k) := hk
    have HUB : Hid (∀ k, u.ownBlock = some k → k ≠ B) := fun k e => by
      rcases hk k e with h' | h'
      · intro e'; exact H.out.out (e' ▸ h')
      · have := H.out.blk.lt; omega
    have HLS : Hid (Hs w1 lv s.lost) := Seg.oth H.out.lost ho (fun k e => (H.out.own k e).1)
    have hbl : B < w1.heap.size := HST.out.lt
    obtain ⟨c0, c3, ⟨d6, d7, d8, d9, d10, d11⟩, c12', c13, ⟨f6, f7, f8, f9, f10, f11⟩, f12, f13⟩ := sg_cells HST.out
    rw [HLV.out] at c13
    clear hu hat hf hk ho c12 HW HCT
    cases l1 with
    | nil =>
      obtain ⟨xa, xc, hu1, _⟩ := HU.out.shape'
      subst hu1
      go_wp2_with (at_builtin; refine wpList_append_empty _ rfl (.tmp 31) (.tmp 32) 74 rfl 76 i0 Tryz.underlying74 hi ux na ucap rfl huc xa xc rfl ?_)
      go_end0
      have HE := (sg_fin HM.out H.out HO.out HAT.out HF.out (sg_ot x1 ok1) (sg_next HST.out x1 ok1) (grownBy_same _ _) (l1 := []) (lv' := lv) (by rw [List.append_nil]; exact Seg.oth HLS.out (sg_ot x1 ok1) (fun k e => (H.out.own k e).2)) (fun k e => Or.inl e)).then HM.out (below_alloc_ (Below.refl _ _) (.cells #[.int .i64 x1.a, .int .i64 x1.l, .int .i64 x1.f, .int .i64 x1.b, .int .i64 x1.m, .int .i64 x1.n] 76))
      rw [HL.out]
      refine ⟨rfl, ?_⟩
      rw [HLV.out] at HE ⊢
      exact HE
    | cons y l3 =>
      obtain ⟨bl, ol, cl, hu2, _, _, hbl2, hcl⟩ := HU.out.some (by simp)
      subst hu2
      obtain ⟨ml, hml⟩ : ∃ ml, (y :: l3).length = ml := ⟨_, rfl⟩
      have HML : Hid ((y :: l3).length = ml) := hml
      have HCL : Hid (∀ j u, (flt Hd.cs (y :: l3))[j]? = some u → w1.cell? ⟨bl, ol + j, none⟩ = some u) := hcl
      have hml0 : 0 < ml ∧ ml ≤ 1000000 := by rw [← hml]; exact ⟨by simp, hfew⟩
      have HSG : Hid (Seg ((((((((w1.setCell ⟨B, 6, none⟩ (.int .i64 x1.a)).setCell ⟨B, 7, none⟩ (.int .i64 x1.l)).setCell ⟨B, 8, none⟩ (.int .i64 x1.f)).setCell ⟨B, 9, none⟩ (.int .i64 x1.b)).setCell ⟨B, 10, none⟩ (.int .i64 x1.m)).setCell ⟨B, 11, none⟩ (.int .i64 x1.n)).setCell ⟨B, 12, none⟩ (.bool ok1))) 76 6 (.slice ux na ucap) na (flt Hd.cs s.lost)) := by
        have := Seg.oth HLS.out (sg_ot x1 ok1) (fun k e => (H.out.own k e).2)
        rw [HNA.out, HLV.out] at this
        exact this
      have hbB : bl ≠ B := HUB.out bl rfl
      have HBX : Hid (bl ≠ B) := hbB
      rw [hml]
      clear hml hcl hfew hbB
      go_wp2_with (at_builtin; refine wpList_append_seg _ rfl (.tmp 31) (.tmp 32) 74 rfl 76 i0 _ 6 48 Tryz.underlying74 hi hz0 hz1 hz2 rfl (by decide) (.slice ux na ucap) na (flt Hd.cs s.lost) rfl (Seg.alloc HSG.out _) ⟨bl, ol, none⟩ ml cl (flt Hd.cs (y :: l3)) rfl (by rw [flt_length Hd.cs 6 Hd.len, HML.out]) (fun j u hj => by rw [Addr.add_lit]; exact (((sg_ot x1 ok1).alloc _).cell (p := ⟨bl, ol + j, none⟩) hbl2 HBX.out).trans (HCL.out j u hj)) (flt_ones' Hd.cs Hd.one _) (by omega) (by unfold maxLen; omega) (by omega) _ rfl ?_; intro g goff gcap w4 hs4 hg4 ha4 hl4; obtain ⟨k0, k3, ⟨e6, e7, e8, e9, e10, e11⟩, k12, k13, ⟨g6, g7, g8, g9, g10, g11⟩, g12, g13⟩ := sg_cells (StG.same ((sg_next HST.out x1 ok1).alloc (.cells #[.int .i64 x1.a, .int .i64 x1.l, .int .i64 x1.f, .int .i64 x1.b, .int .i64 x1.m, .int .i64 x1.n] 76)) (hg4.block B (by simp; omega) (fun e => (H.out.own B (by rw [HLV.out]; exact e.symm)).2 rfl))))
      go_end0
      have hgr : World.grownBy (((((((((w1.setCell ⟨B, 6, none⟩ (.int .i64 x1.a)).setCell ⟨B, 7, none⟩ (.int .i64 x1.l)).setCell ⟨B, 8, none⟩ (.int .i64 x1.f)).setCell ⟨B, 9, none⟩ (.int .i64 x1.b)).setCell ⟨B, 10, none⟩ (.int .i64 x1.m)).setCell ⟨B, 11, none⟩ (.int .i64 x1.n)).setCell ⟨B, 12, none⟩ (.bool ok1))).alloc (.cells #[.int .i64 x1.a, .int .i64 x1.l, .int .i64 x1.f, .int .i64 x1.b, .int .i64 x1.m, .int .i64 x1.n] 76)) w4 lv.ownBlock := by rw [HLV.out]; exact hg4
      have HE := sg_fin HM.out H.out HO.out HAT.out HF.out ((sg_ot x1 ok1).alloc _) ((sg_next HST.out x1 ok1).alloc (.cells #[.int .i64 x1.a, .int .i64 x1.l, .int .i64 x1.f, .int .i64 x1.b, .int .i64 x1.m, .int .i64 x1.n] 76)) hgr (l1 := y :: l3) (lv' := .slice (some ⟨g, goff, none⟩) (na + ml) gcap) (Hs.app hs4 (by rw [List.length_append, HNA.out, HML.out])) (fun k e => by simp only [Value.ownBlock, Option.some.injEq] at e; subst e; rcases ha4 with h | h; exact Or.inl (by rw [HLV.out]; exact h); exact Or.inr h)
      rw [HL.out]
      exact ⟨rfl, HE⟩
end Go.Proofs.YtfakjedolecdcaaGreatDoor
