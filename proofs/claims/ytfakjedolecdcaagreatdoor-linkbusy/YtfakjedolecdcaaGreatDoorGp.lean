/-
  shaper.Shaper: what When, Len and Bytes return, and what they leave. Conditions: the queue's methods do what a model of it tells (a premise); a bucket that may be; a level within its room.
  A Shaper is a queue as plain.Play asks it: its model; shaper.New. Conditions: a bucket that may be; the queue's methods do what a model of it tells (a premise).
  What a shaper over a Fifo lets go, in plain numbers: it keeps its order, goes at the time that When tells, and conforms to its bucket. Mathematics alone: nothing of the program is claimed here. Conditions: a bucket that may be.
-/
import Derived.Test.YtfakjedolecdcaaGreatDoorGo
import Derived.Test.YtfakjedolecdcaaGreatDoorGma
namespace Go.Proofs.YtfakjedolecdcaaGreatDoor
open Go.RowKit Go.Extern.Stop Go.Stop Go.Extern

theorem slen_any {M : QM} {B : Nat} {n t R : Int} {F : Nat → Prop} {s : ShS M.σ} {nx : Hd} {tt : Int} {nn : Nat} (hM : M.Calm) (w : World) (h : ShAt M B n t R w F s nx) (hI : ShI M n t R tt nn s) (hn : nn ≤ 1001) :
    Calls Tryz.prog 186 #[.pointer (some ⟨B, 0, none⟩)] w fun e w' => e = .returned (.int .i64 (lenS s)) ∧ Below w.heap.size w w' := by
  obtain ⟨_, _, _, c12, _⟩ := h.cells
  have HW := swithin_any w h
  have HCL := hM.fine.cL h.inner hI.q hn
  have hmL := hM.fine.mL
  have heL := hM.fine.eL
  obtain ⟨⟨hs0, hs1⟩, _⟩ := hM.small hI.q hn
  cases hh : s.hold with
  | none =>
    have HE : Hid (lenS s = M.len s.q) := by show _ = _; unfold lenS; rw [hh]
    rw [hh] at c12
    simp only [Option.isSome] at c12
    clear h hI hM
    go_enter Tryz.func186, Tryz.ntmps186
    go_wp2_with fail
    refine HW.mono ?_
    rintro e w0 ⟨rfl, rfl⟩
    go_wp2_with fail
    refine HCL.mono ?_
    rintro e w1 ⟨rfl, hb1⟩
    go_wp2
    go_ret
    exact ⟨by rw [HE.out]; rfl, hb1⟩
  | some x =>
    have HE : Hid (lenS s = M.len s.q + 1) := by show _ = _; unfold lenS; rw [hh]
    rw [hh] at c12
    simp only [Option.isSome] at c12
    clear h hI hM
    go_enter Tryz.func186, Tryz.ntmps186
    go_wp2_with fail
    refine HW.mono ?_
    rintro e w0 ⟨rfl, rfl⟩
    go_wp2_with fail
    refine HCL.mono ?_
    rintro e w1 ⟨rfl, hb1⟩
    go_wp2
    go_ret
    exact ⟨by rw [HE.out]; rfl, hb1⟩
set_option maxRecDepth 20000 in
set_option maxHeartbeats 1000000 in
theorem sbytes_any {M : QM} {B : Nat} {n t R : Int} {F : Nat → Prop} {s : ShS M.σ} {nx : Hd} {tt : Int} {nn : Nat} (hM : M.Calm) (w : World) (h : ShAt M B n t R w F s nx) (hI : ShI M n t R tt nn s) (hn : nn ≤ 1001) :
    Calls Tryz.prog 185 #[.pointer (some ⟨B, 0, none⟩)] w fun e w' => e = .returned (.int .i64 (bytesS s)) ∧ Below w.heap.size w w' := by
  obtain ⟨_, _, ⟨_, c7, _⟩, c12, _⟩ := h.cells
  have hB := h.blk.lt
  have HW : Hid (∀ W : World, W.heap[B]? = w.heap[B]? → M.At W F s.q → Calls Tryz.prog 190 #[.pointer (some ⟨B, 0, none⟩)] W fun e w' => e = .returned (.iface M.ty M.rv) ∧ w' = W) := fun W h1 h2 => swithin_any W ⟨h.blk.same h1, h2, h.out, h.eq⟩
  have HCB : Hid (∀ W : World, M.At W F s.q → Calls Tryz.prog M.fB #[M.rB] W fun e w' => e = .returned (.int .i64 (M.bytes s.q)) ∧ Below W.heap.size W w') := fun W h1 => hM.fine.cB h1 hI.q hn
  have HAT : Hid (∀ W : World, (∀ k, F k → W.heap[k]? = w.heap[k]?) → M.At W F s.q) := fun W h1 => hM.fine.kept h.inner h1
  have hmB := hM.fine.mB
  have heB := hM.fine.eB
  obtain ⟨_, hs0, hs1⟩ := hM.small hI.q hn
  cases hh : s.hold with
  | none =>
    have HE : Hid (bytesS s = M.bytes s.q) := by show _ = _; unfold bytesS; rw [hh]
    rw [hh] at c12
    simp only [Option.isSome] at c12
    clear h hI hM
    go_enter Tryz.func185, Tryz.ntmps185
    go_wp2_with fail
    refine (HW.out w rfl (HAT.out w (fun _ _ => rfl))).mono ?_
    rintro e w0 ⟨rfl, rfl⟩
    go_wp2_with fail
    refine (HCB.out w0 (HAT.out w0 (fun _ _ => rfl))).mono ?_
    rintro e w1 ⟨rfl, hb1⟩
    go_wp2
    go_ret
    exact ⟨by rw [HE.out]; rfl, hb1⟩
  | some x =>
    have hxl := ok_len (hI.held x hh)
    obtain rfl := h.eq x hh
    have HE : Hid (bytesS s = M.bytes s.q + nx.l) := by show _ = _; unfold bytesS; rw [hh]
    have HC7 : Hid (∀ W : World, W.heap[B]? = w.heap[B]? → W.cell? ⟨B, 7, none⟩ = some (.int .i64 nx.l)) := fun W hW => (World.cell?_of_block (w := w) hW).trans c7
    rw [hh] at c12
    simp only [Option.isSome] at c12
    have hwr : IntKind.i64.wrap (M.bytes s.q + nx.l) = M.bytes s.q + nx.l := by rw [IntKind.wrap_i64]; omega
    clear h hI hM hs0 hs1 hxl
    go_enter Tryz.func185, Tryz.ntmps185
    go_wp2
    go_region_held3 (fun W => W.cell? ⟨B, 7, none⟩ = some (.int .i64 nx.l)) (first | exact HC7.out _ (hb1.block B (by exact hB)) | (refine HC7.out _ ?_; rfl)) (first | (go_at_call 190; refine (HW.out _ ?_ (HAT.out _ ?_)).mono ?_; rfl; exact fun _ _ => rfl; rintro e w0 ⟨rfl, rfl⟩) | (refine (HCB.out _ (HAT.out _ ?_)).mono ?_; exact fun _ _ => rfl; rintro e w1 ⟨rfl, hb1⟩))
    all_goals
      go_wp2
      go_ret
      exact ⟨by rw [HE.out]; rfl, (Below.refl w.heap.size w).drew.trans hb1⟩
set_option maxHeartbeats 2000000 in
theorem swhen_any {M : QM} {B : Nat} {n t R : Int} {F : Nat → Prop} {s : ShS M.σ} {nx : Hd} {tt : Int} {nn : Nat} (now : Int) (hM : M.Calm) (hb : okB n t R) (w : World) (h : ShAt M B n t R w F s nx) (hI : ShI M n t R tt nn s) (h0 : 0 ≤ tt) (h1 : tt ≤ now) (h2 : now ≤ 20000000) (hn : nn ≤ 1000) :
    Calls Tryz.prog 189 #[.pointer (some ⟨B, 0, none⟩), .int .i64 now] w fun e w' => e = .returned (.tuple #[.int .i64 (whenS n t R s now).2.1, .bool (whenS n t R s now).2.2]) ∧ LookP M B n t R F w (whenS n t R s now).1 w' := by
  have HM : Hid M.Calm := hM
  have HI2 : Hid (ShI M n t R now nn (lookS s now)) := look_inv hM now hI h0 h1 h2 hn
  have HLK := look_any now hM w h hI.q h0 h1 h2 hn
  have HE : Hid ((lookS s now).lev = s.lev ∧ (lookS s now).lat = s.lat) := lookS_same s now
  have HTS : Hid (whenS n t R s now = match (lookS s now).hold with
    | none => ({ lookS s now with q := (M.when (lookS s now).q now).1 }, (M.when (lookS s now).q now).2.1, (M.when (lookS s now).q now).2.2)
    | some x => if x.l ≤ R then ({ lookS s now with lev := pas n t R s.lev s.lat now, lat := lat1 s.lat now }, whn n t (pas n t R s.lev s.lat now) (lat1 s.lat now) x.l, true) else ({ lookS s now with lev := pas n t R s.lev s.lat now, lat := lat1 s.lat now }, 0, false)) := rfl
  obtain ⟨s1, hs1⟩ : ∃ s1, lookS s now = s1 := ⟨_, rfl⟩
  obtain ⟨r, hr⟩ : ∃ r, whenS n t R s now = r := ⟨_, rfl⟩
  rw [hs1] at HI2 HLK HE HTS
  rw [hr] at HTS ⊢
  have HB : Hid (okB n t R) := hb
  have HNN : Hid (0 ≤ now ∧ now ≤ 20000000 ∧ nn ≤ 1000) := ⟨by omega, h2, hn⟩
  clear hs1 hr h hM hI hb
  go_enter Tryz.func189, Tryz.ntmps189
  go_wp2_with fail
  refine HLK.mono ?_
  rintro e w1 ⟨rfl, hl1⟩
  clear HLK
  have HOT1 : Hid (Ot (fun k => k = B ∨ F k) w w1) := hl1.ot
  obtain ⟨F1, nx1, hA1, hF1⟩ := hl1.ex
  have HF1 : Hid (∀ k, F1 k → F k ∨ w.heap.size ≤ k) := hF1
  have HA1 : Hid (ShAt M B n t R w1 F1 s1 nx1) := hA1
  obtain ⟨c0, c3, ⟨d6, d7, d8, d9, d10, d11⟩, c12, c13, ⟨f6, f7, f8, f9, f10, f11⟩, f12, f13⟩ := hA1.cells
  have hB1 := hA1.blk.lt
  clear hA1 hF1 hl1
  cases hh : s1.hold with
  | none =>
    rw [hh] at c12
    simp only [Option.isSome] at c12
    have HTS2 : Hid (r = ({ s1 with q := (M.when s1.q now).1 }, (M.when s1.q now).2.1, (M.when s1.q now).2.2)) := by
      show _ = _
      rw [show r = _ from HTS.out, hh]
    have hmW := HM.out.fine.mW
    have heW := HM.out.fine.eW
    have HW := swithin_any w1 HA1.out
    have HCW := HM.out.fine.cW now HA1.out.inner HI2.out.q HNN.out.1 (Int.le_refl _) HNN.out.2.1 HNN.out.2.2
    clear HTS hh
    go_wp2_with fail
    refine HW.mono ?_
    rintro e w2 ⟨rfl, rfl⟩
    go_wp2_with fail
    refine HCW.mono ?_
    rintro e w3 ⟨F3, rfl, ha3, hf3, ho3⟩
    go_wp2
    go_ret2
    have hnb : ¬ F3 B := by
      intro hb'
      rcases hf3 B hb' with h' | h'
      · exact HA1.out.out h'
      · omega
    refine ⟨by rw [HTS2.out]; rfl, ?_⟩
    rw [HTS2.out]
    refine ⟨⟨F3, nx1, ⟨HA1.out.blk.same (ho3.block B hB1 HA1.out.out), ha3, hnb, HA1.out.eq⟩, fun k hk => ?_⟩, HOT1.out.trans' ho3 (fun k hk hkl => ?_)⟩
    · rcases hf3 k hk with h' | h'
      · exact HF1.out k h'
      · right; have := HOT1.out.size; omega
    · rcases HF1.out k hk with h' | h'
      · exact Or.inr h'
      · omega
  | some x =>
    obtain rfl := HA1.out.eq x hh
    rw [hh] at c12
    simp only [Option.isSome] at c12
    have hxl := ok_len (HI2.out.held _ hh)
    have HC7 : Hid (∀ W : World, W.heap[B]? = w1.heap[B]? → W.cell? ⟨B, 7, none⟩ = some (.int .i64 nx1.l)) := fun W hW => (World.cell?_of_block (w := w1) hW).trans d7
    have HHH : Hid (s1.hold = some nx1) := hh
    have HTK : Hid (∀ W : World, W.heap[B]? = w1.heap[B]? → Calls Tryz.prog 193 #[.pointer (some ⟨B, 1, none⟩), .int .i64 now, .int .i64 nx1.l] W fun e w' => e = .returned (.tuple #[.int .i64 r.2.1, .bool r.2.2]) ∧ StG w' B 1 [.iface M.ty M.rv] (shPost nx1 true) 171 n t R (pas n t R s.lev s.lat now) (lat1 s.lat now) ∧ Oth (· = B) W w') := by
      intro W hW
      have hst := HA1.out.blk.same hW
      have hi := HI2.out
      have hnn := HNN.out
      rw [HE.out.1, HE.out.2, hh] at hst
      have e1 : r = _ := HTS.out
      rw [hh] at e1
      simp only at e1
      by_cases hr : nx1.l ≤ R
      · rw [if_pos hr] at e1
        rw [e1]
        exact when_yes now nx1.l W hst HB.out (by rw [← HE.out.1]; exact hi.l0) (by rw [← HE.out.1]; exact hi.l1) (by rw [← HE.out.2]; exact hi.t0) (by rw [← HE.out.2]; have := hi.t1; omega) (by omega) (by omega) hr
      · rw [if_neg hr] at e1
        rw [e1]
        exact when_no now nx1.l W hst HB.out (by rw [← HE.out.1]; exact hi.l0) (by rw [← HE.out.1]; exact hi.l1) (by rw [← HE.out.2]; exact hi.t0) (by omega) (by omega) (by omega)
    have HR1 : Hid (r.1 = { q := s1.q, lev := pas n t R s.lev s.lat now, lat := lat1 s.lat now, hold := some nx1 }) := by
      show _ = _
      have e1 : r = _ := HTS.out
      rw [hh] at e1
      simp only at e1
      split at e1 <;> (rw [e1])
    clear HTS hh hxl
    obtain ⟨ra, ro, rb⟩ := r
    simp only at HTK HR1 ⊢
    go_wp2
    go_region_held3 (fun W => W.cell? ⟨B, 7, none⟩ = some (.int .i64 nx1.l)) (first | exact e7 | (refine HC7.out _ ?_; rfl)) ((go_at_call 193; refine (HTK.out _ ?_).mono ?_; rfl; rintro e w3 ⟨rfl, hst3, ho3⟩; have HOT3 : Hid (Ot (fun k => k = B ∨ F k) w w3) := HOT1.out.trans' (c := w3) (T := (· = B)) (by exact ⟨ho3.os, ho3.tape, ho3.output, ho3.size, ho3.block⟩) (fun k e _ => Or.inl e); have hA3 : ShAt M B n t R w3 F1 { q := s1.q, lev := pas n t R s.lev s.lat now, lat := lat1 s.lat now, hold := some nx1 } nx1 := ⟨hst3, HM.out.fine.kept HA1.out.inner (fun k hk => (ho3.block k (by exact HM.out.fine.low HA1.out.inner k hk) (fun e => HA1.out.out (by rw [← e]; exact hk)))), HA1.out.out, fun y hy => by simpa using hy⟩; have HA3 : Hid (ShAt M B n t R w3 F1 { q := s1.q, lev := pas n t R s.lev s.lat now, lat := lat1 s.lat now, hold := some nx1 } nx1) := hA3; obtain ⟨k0, k3, ⟨e6, e7, e8, e9, e10, e11⟩, k12, k13, _⟩ := hA3.cells; clear hA3 hst3 ho3))
    all_goals
      go_wp2
      go_ret2
      refine ⟨rfl, ?_⟩
      rw [HR1.out]
      exact ⟨⟨F1, nx1, HA3.out, HF1.out⟩, HOT3.out⟩
end Go.Proofs.YtfakjedolecdcaaGreatDoor
namespace Go.Proofs.YtfakjedolecdcaaGreatDoor
open Go.RowKit Go.Extern.Stop Go.Stop Go.Extern

theorem mShaperP (b : Nat) (W : World) : (Go.method 395 131 (.pointer (some ⟨b, 0, none⟩)) "Put").run Tryz.prog W = .ok (187, .pointer (some ⟨b, 0, none⟩)) W := by kernel_rfl
theorem mShaperT (b : Nat) (W : World) : (Go.method 395 131 (.pointer (some ⟨b, 0, none⟩)) "Take").run Tryz.prog W = .ok (188, .pointer (some ⟨b, 0, none⟩)) W := by kernel_rfl
theorem mShaperW (b : Nat) (W : World) : (Go.method 395 131 (.pointer (some ⟨b, 0, none⟩)) "When").run Tryz.prog W = .ok (189, .pointer (some ⟨b, 0, none⟩)) W := by kernel_rfl
theorem mShaperL (b : Nat) (W : World) : (Go.method 395 131 (.pointer (some ⟨b, 0, none⟩)) "Len").run Tryz.prog W = .ok (186, .pointer (some ⟨b, 0, none⟩)) W := by kernel_rfl
theorem mShaperB (b : Nat) (W : World) : (Go.method 395 131 (.pointer (some ⟨b, 0, none⟩)) "Bytes").run Tryz.prog W = .ok (185, .pointer (some ⟨b, 0, none⟩)) W := by kernel_rfl
theorem eShaperP (args : Array Value) (W : World) : (callFunc 187 args).run Tryz.prog W = .ok (.enter 187 args) W := enters_of Tryz.func187 (by kernel_rfl) rfl args W
theorem eShaperT (args : Array Value) (W : World) : (callFunc 188 args).run Tryz.prog W = .ok (.enter 188 args) W := enters_of Tryz.func188 (by kernel_rfl) rfl args W
theorem eShaperW (args : Array Value) (W : World) : (callFunc 189 args).run Tryz.prog W = .ok (.enter 189 args) W := enters_of Tryz.func189 (by kernel_rfl) rfl args W
theorem eShaperL (args : Array Value) (W : World) : (callFunc 186 args).run Tryz.prog W = .ok (.enter 186 args) W := enters_of Tryz.func186 (by kernel_rfl) rfl args W
theorem eShaperB (args : Array Value) (W : World) : (callFunc 185 args).run Tryz.prog W = .ok (.enter 185 args) W := enters_of Tryz.func185 (by kernel_rfl) rfl args W

/-- A shaper in block B over a queue. -/
def ShaperM (M : QM) (B : Nat) (n t R : Int) : QM where
  σ := ShS M.σ
  ty := 131
  rv := .pointer (some ⟨B, 0, none⟩)
  fP := 187
  fT := 188
  fW := 189
  fL := 186
  fB := 185
  rP := .pointer (some ⟨B, 0, none⟩)
  rT := .pointer (some ⟨B, 0, none⟩)
  rW := .pointer (some ⟨B, 0, none⟩)
  rL := .pointer (some ⟨B, 0, none⟩)
  rB := .pointer (some ⟨B, 0, none⟩)
  At := fun w G s => ∃ F nx, ShAt M B n t R w F s nx ∧ ∀ k, G k ↔ k = B ∨ F k
  put := fun s now x => putS R s now x
  take := fun s now => takeS n t R s now
  when := fun s now => whenS n t R s now
  len := fun s => lenS s
  bytes := fun s => bytesS s
  inv := fun tt nn s => ShI M n t R tt nn s
theorem LookP.at {M : QM} {B : Nat} {n t R : Int} {F G : Nat → Prop} {w w' : World} {s : ShS M.σ} (h : LookP M B n t R F w s w') (hG : ∀ k, G k ↔ k = B ∨ F k) : ∃ G', (ShaperM M B n t R).At w' G' s ∧ (∀ k, G' k → G k ∨ w.heap.size ≤ k) ∧ Ot G w w' := by
  obtain ⟨F', nx, h1, h2⟩ := h.ex
  refine ⟨fun k => k = B ∨ F' k, ⟨F', nx, h1, fun _ => Iff.rfl⟩, fun k hk => ?_, h.ot.mono (fun k _ hk => (hG k).2 hk)⟩
  rcases hk with hk | hk
  · exact Or.inl ((hG k).2 (Or.inl hk))
  · rcases h2 k hk with h | h
    · exact Or.inl ((hG k).2 (Or.inr h))
    · exact Or.inr h
theorem drw_room {t R lev x : Int} (h0 : 0 ≤ lev) (h1 : lev ≤ R * t) (hx : 0 ≤ x * t) : 0 ≤ drw t lev x ∧ drw t lev x ≤ R * t := by
  unfold drw
  split <;> omega
theorem takeS_none {M : QM} {n t R : Int} (s : ShS M.σ) (now : Int) : (takeS n t R s now).2.1 = [] := by
  unfold takeS
  split
  · rfl
  · split <;> rfl
theorem shaperM_fine {M : QM} (hM : M.Calm) (B : Nat) {n t R : Int} (hb : okB n t R) : (ShaperM M B n t R).Fine where
  kept := by
    rintro w w' G s ⟨F, nx, h, hG⟩ hk
    exact ⟨F, nx, h.kept hM (fun k hf => hk k ((hG k).2 hf)), hG⟩
  low := by
    rintro w G s ⟨F, nx, h, hG⟩ k hk
    exact h.low hM k ((hG k).1 hk)
  mP := mShaperP _
  mT := mShaperT _
  mW := mShaperW _
  mL := mShaperL _
  mB := mShaperB _
  eP := eShaperP
  eT := eShaperT
  eW := eShaperW
  eL := eShaperL
  eB := eShaperB
  cP := by
    rintro w G s tt nn now x ⟨F, nx, h, hG⟩ hI h0 h1 h2 hok hxa hxn hn
    refine (sput_any now x hM w h hI.q h0 h1 h2 hok hxa hxn hn).mono ?_
    rintro e w' ⟨u, rfl, hu, hl, hk⟩
    obtain ⟨G', g1, g2, g3⟩ := hl.at hG
    refine ⟨u, G', rfl, hu, g1, g2, fun k hk' => ?_, g3⟩
    rcases hk k hk' with h' | h'
    · exact Or.inl ((hG k).2 (Or.inr h'))
    · exact Or.inr h'
  iP := by
    intro (s : ShS M.σ) tt nn now x hI h0 h1 h2 hok hxa hxn hn
    show ShI M n t R now (nn + 1) (putS R s now x).1 ∧ (putS R s now x).2.length ≤ 1000000
    have hq := hM.fine.iP now x hI.q h0 h1 h2 hok hxa hxn hn
    unfold putS
    split
    · exact ⟨⟨hM.mono hI.q h1 (Nat.le_succ _), hI.l0, hI.l1, hI.t0, Int.le_trans hI.t1 h1, hI.held⟩, by simp⟩
    · exact ⟨⟨hq.1, hI.l0, hI.l1, hI.t0, Int.le_trans hI.t1 h1, hI.held⟩, hq.2⟩
  cT := by
    rintro w G s tt nn now ⟨F, nx, h, hG⟩ hI h0 h1 h2 hn
    refine (stake_any now hM hb w h hI h0 h1 h2 hn).mono ?_
    rintro e w' ⟨rfl, hT⟩
    obtain ⟨G', g1, g2, g3⟩ := hT.look.at hG
    exact ⟨_, G', rfl, by rw [show ((ShaperM M B n t R).take s now).2.1 = [] from takeS_none s now]; exact Hs.nil _, g1, g2, fun k hk => by simp [Value.ownBlock] at hk, g3⟩
  iT := by
    intro (s : ShS M.σ) tt nn now hI h0 h1 h2 hn
    show ShI M n t R now nn (takeS n t R s now).1 ∧ (takeS n t R s now).2.1.length ≤ 1000000
    refine ⟨?_, by rw [takeS_none]; simp⟩
    have hl := look_inv hM now hI h0 h1 h2 hn
    have hp := pas_room (n := n) (t := t) (R := R) (lat := s.lat) (now := now) hb.1.1 hI.l0 hI.l1
    have hla : 0 ≤ lat1 s.lat now ∧ lat1 s.lat now ≤ now := by have := hI.t0; have := hI.t1; unfold lat1; split <;> omega
    unfold takeS
    split
    · exact hl
    · rename_i x hx
      have hxl := ok_len (hl.held x hx)
      have hd := drw_room (t := t) (R := R) (x := x.l) hp.1 hp.2 (Int.mul_nonneg (by omega) (by have := hb.2.1; omega))
      split
      · exact ⟨hl.q, hd.1, hd.2, hla.1, hla.2, fun y hy => by simp at hy⟩
      · exact ⟨hl.q, hd.1, hd.2, hla.1, hla.2, hl.held⟩
  cW := by
    rintro w G s tt nn now ⟨F, nx, h, hG⟩ hI h0 h1 h2 hn
    refine (swhen_any now hM hb w h hI h0 h1 h2 hn).mono ?_
    rintro e w' ⟨rfl, hl⟩
    obtain ⟨G', g1, g2, g3⟩ := hl.at hG
    exact ⟨G', rfl, g1, g2, g3⟩
  iW := by
    intro (s : ShS M.σ) tt nn now hI h0 h1 h2 hn
    show ShI M n t R now nn (whenS n t R s now).1
    have hl := look_inv hM now hI h0 h1 h2 hn
    have hp := pas_room (n := n) (t := t) (R := R) (lat := s.lat) (now := now) hb.1.1 hI.l0 hI.l1
    have hla : 0 ≤ lat1 s.lat now ∧ lat1 s.lat now ≤ now := by have := hI.t0; have := hI.t1; unfold lat1; split <;> omega
    unfold whenS
    split
    · exact ⟨hM.fine.iW now hl.q (by omega) (Int.le_refl _) h2 hn, hl.l0, hl.l1, hl.t0, hl.t1, hl.held⟩
    · split
      · exact ⟨hl.q, hp.1, hp.2, hla.1, hla.2, hl.held⟩
      · exact ⟨hl.q, hp.1, hp.2, hla.1, hla.2, hl.held⟩
  cL := by
    rintro w G s tt nn ⟨F, nx, h, hG⟩ hI hn
    exact slen_any hM w h hI hn
  cB := by
    rintro w G s tt nn ⟨F, nx, h, hG⟩ hI hn
    exact sbytes_any hM w h hI hn
end Go.Proofs.YtfakjedolecdcaaGreatDoor
namespace Go.Proofs.YtfakjedolecdcaaGreatDoor

/-- What the law counts: the bytes of what was put in, what went, which was the last. -/
structure LwS where
  lens : List Int
  gone : List It
  last : Int
def lens1 (S : LwS) (st : Stp) : List Int := if st.what = 0 then S.lens ++ [st.l] else S.lens
def lwS (S : LwS) (st : Stp) (sn : Sn) : LwS :=
  if 0 ≤ sn.taken then ⟨lens1 S st, S.gone ++ [⟨st.lt, (lens1 S st).getD sn.taken.toNat 0, 0, 0, 0⟩], sn.taken⟩ else ⟨lens1 S st, S.gone, S.last⟩
def lwRun (ts : List Stp) (ss : List Sn) : Nat → LwS
  | 0 => ⟨[], [], -1⟩
  | k + 1 => match ts[k]?, ss[k]? with
    | some st, some sn => lwS (lwRun ts ss k) st sn
    | _, _ => lwRun ts ss k
theorem lwRun_succ {ts : List Stp} {ss : List Sn} {k : Nat} {st : Stp} {sn : Sn} (h1 : ts[k]? = some st) (h2 : ss[k]? = some sn) : lwRun ts ss (k + 1) = lwS (lwRun ts ss k) st sn := by simp only [lwRun, h1, h2]
theorem lwRun_le (ts : List Stp) (ss : List Sn) : ∀ k, (lwRun ts ss k).lens.length ≤ k ∧ (lwRun ts ss k).gone.length ≤ k := by
  intro k
  induction k with
  | zero => exact ⟨Nat.le_refl _, Nat.le_refl _⟩
  | succ k ih =>
    simp only [lwRun]
    split
    · rename_i st sn _ _
      have h1 : (lens1 (lwRun ts ss k) st).length ≤ k + 1 := by
        unfold lens1
        split
        · simp; omega
        · omega
      unfold lwS
      split
      · exact ⟨h1, by simp; omega⟩
      · exact ⟨h1, by show (lwRun ts ss k).gone.length ≤ _; omega⟩
    · omega
/-- What is so ahead of each step. -/
structure ShJ (n t R : Int) (S : LwS) (s : ShS (List Hd)) (nn : Nat) : Prop where
  len : S.lens.length = nn
  last : S.last < nn
  sorted : ((s.hold.toList ++ s.q).map Hd.n).Pairwise (· < ·)
  each : ∀ x ∈ s.hold.toList ++ s.q, S.last < x.n ∧ 0 ≤ x.n ∧ x.n < nn ∧ S.lens[x.n.toNat]? = some x.l ∧ x.ok = true
  gok : ∀ x ∈ S.gone, x.ok = true ∧ x.a ≤ s.lat
  gord : (S.gone.map It.a).Pairwise (· ≤ ·)
  bl : (bst n t R S.gone S.gone.length).2 ≤ s.lat
  lv : s.lev = pas n t R (bst n t R S.gone S.gone.length).1 (bst n t R S.gone S.gone.length).2 s.lat
  ok : ∀ j, j < S.gone.length → bok n t R S.gone j = true
theorem fine_of {l : List It} (hok : ∀ x ∈ l, x.ok = true) (hord : (l.map It.a).Pairwise (· ≤ ·)) : Fine l := by
  intro k x hx
  have h1 := hok x (List.mem_of_getElem? hx)
  simp only [It.ok, Bool.and_eq_true, wth_iff] at h1
  refine ⟨by omega, fun y hy => ?_⟩
  rw [List.pairwise_iff_getElem] at hord
  obtain ⟨hk, rfl⟩ := List.getElem?_eq_some_iff.1 hx
  obtain ⟨hk1, rfl⟩ := List.getElem?_eq_some_iff.1 hy
  have := hord k (k + 1) (by simpa using hk) (by simpa using hk1) (by omega)
  simpa using this
theorem lat1_eq {lat now : Int} (h : lat ≤ now) : lat1 lat now = now := by unfold lat1; split <;> omega
/-- A time later. -/
theorem ShJ.pass {n t R : Int} {S : LwS} {s : ShS (List Hd)} {nn : Nat} (h : ShJ n t R S s nn) (hn : 1 ≤ n) (ht : 1 ≤ t) (hR : 0 ≤ R) {now : Int} (hl : s.lat ≤ now) : pas n t R s.lev s.lat now = pas n t R (bst n t R S.gone S.gone.length).1 (bst n t R S.gone S.gone.length).2 now := by
  have hF := fine_of (fun x hx => (h.gok x hx).1) h.gord
  have hb := bst_lev (n := n) (t := t) (R := R) hF hn ht hR _ (Nat.le_refl _)
  rw [h.lv]
  have e := lat1_eq h.bl
  have := pas_pas (n := n) (t := t) (R := R) (lev := (bst n t R S.gone S.gone.length).1) (lat := (bst n t R S.gone S.gone.length).2) (a := s.lat) (b := now) hn (by rw [e]; exact hl) hb.2
  rw [e] at this
  exact this
theorem ShJ.told {n t R : Int} {S : LwS} {s : ShS (List Hd)} {nn : Nat} (h : ShJ n t R S s nn) (hn : 1 ≤ n) (ht : 1 ≤ t) (hR : 0 ≤ R) {now : Int} (hl : s.lat ≤ now) : ShJ n t R S { s with lev := pas n t R s.lev s.lat now, lat := lat1 s.lat now } nn := by
  have e := lat1_eq hl
  rw [e]
  exact ⟨h.len, h.last, h.sorted, h.each, fun x hx => ⟨(h.gok x hx).1, Int.le_trans (h.gok x hx).2 hl⟩, h.gord, Int.le_trans h.bl hl, h.pass hn ht hR hl, h.ok⟩
/-- Over a Fifo. -/
def lookF (f : Nat) (P Rm : Int) (s : ShS (List Hd)) (now : Int) : ShS (List Hd) := lookS (M := FifoM f P Rm false) s now
theorem lookF_same (f : Nat) (P Rm : Int) (s : ShS (List Hd)) (now : Int) : (lookF f P Rm s now).lev = s.lev ∧ (lookF f P Rm s now).lat = s.lat := lookS_same (M := FifoM f P Rm false) s now
theorem look_list (f : Nat) (P Rm : Int) (s : ShS (List Hd)) (now : Int) : (lookF f P Rm s now).hold.toList ++ (lookF f P Rm s now).q = s.hold.toList ++ s.q := by
  obtain ⟨q, lev, lat, hold⟩ := s
  cases hold with
  | some x => rfl
  | none =>
    cases q with
    | nil => rfl
    | cons x L => rfl
theorem look_J {n t R : Int} {S : LwS} {s : ShS (List Hd)} {nn : Nat} (f : Nat) (P Rm : Int) (h : ShJ n t R S s nn) (now : Int) : ShJ n t R S (lookF f P Rm s now) nn := by
  obtain ⟨e1, e2⟩ := lookF_same f P Rm s now
  have e3 := look_list f P Rm s now
  exact ⟨h.len, h.last, by rw [e3]; exact h.sorted, by rw [e3]; exact h.each, by rw [e2]; exact h.gok, h.gord, by rw [e2]; exact h.bl, by rw [e1, e2]; exact h.lv, h.ok⟩
theorem look_none {f : Nat} {P Rm : Int} {s : ShS (List Hd)} {now : Int} (h : (lookF f P Rm s now).hold = none) : (lookF f P Rm s now).q = [] := by
  obtain ⟨q, lev, lat, hold⟩ := s
  cases hold with
  | some x => simp [lookF, lookS] at h
  | none =>
    cases q with
    | nil => rfl
    | cons x L => simp [lookF, lookS, FifoM] at h
theorem look_again {f : Nat} {P Rm : Int} {s : ShS (List Hd)} {x : Hd} (h : s.hold = some x) (now : Int) : lookF f P Rm s now = s := by
  unfold lookF lookS
  rw [h]
theorem bst_snoc {n t R : Int} (l : List It) (y : It) : bst n t R (l ++ [y]) l.length = bst n t R l l.length := bst_congr _ (fun j hj => by rw [List.getElem?_append_left hj])
theorem bok_snoc {n t R : Int} (l : List It) (y : It) {j : Nat} (hj : j < l.length) : bok n t R (l ++ [y]) j = bok n t R l j := by
  have e : bst n t R (l ++ [y]) j = bst n t R l j := bst_congr j (fun i hi => by rw [List.getElem?_append_left (by omega)])
  unfold bok
  rw [List.getElem?_append_left hj, e]
/-- One goes. -/
theorem ShJ.goes {n t R : Int} {S : LwS} {s : ShS (List Hd)} {nn : Nat} (h : ShJ n t R S s nn) (hn : 1 ≤ n) (ht : 1 ≤ t) (hR : 0 ≤ R) {now : Int} (hl : s.lat ≤ now) (h0 : 0 ≤ now) (h1 : now ≤ 20000000) {x : Hd} (hx : s.hold = some x) (hd : drwB t (pas n t R s.lev s.lat now) x.l = true) :
    (S.last < x.n ∧ 0 ≤ x.n ∧ x.n < nn ∧ S.lens[x.n.toNat]? = some x.l) ∧ ShJ n t R ⟨S.lens, S.gone ++ [⟨now, x.l, 0, 0, 0⟩], x.n⟩ { s with lev := drw t (pas n t R s.lev s.lat now) x.l, lat := lat1 s.lat now, hold := none } nn := by
  have hxe := h.each x (by rw [hx]; simp)
  refine ⟨⟨hxe.1, hxe.2.1, hxe.2.2.1, hxe.2.2.2.1⟩, ?_⟩
  have hs := h.sorted
  rw [hx] at hs
  simp only [Option.toList_some, List.singleton_append, List.map_cons, List.pairwise_cons] at hs
  have hxl := ok_len hxe.2.2.2.2
  have e := lat1_eq hl
  have hp := h.pass hn ht hR hl
  have hd2 : x.l * t ≤ pas n t R s.lev s.lat now := by simpa [drwB] using hd
  have hy : (S.gone ++ [(⟨now, x.l, 0, 0, 0⟩ : It)])[S.gone.length]? = some ⟨now, x.l, 0, 0, 0⟩ := by simp
  have hbs : bst n t R (S.gone ++ [(⟨now, x.l, 0, 0, 0⟩ : It)]) (S.gone.length + 1) = (pas n t R s.lev s.lat now - x.l * t, now) := by
    rw [bst_succ hy, bst_snoc, ← hp, if_pos hd2]
    congr 1
    have := h.bl
    show (if now ≤ (bst n t R S.gone S.gone.length).2 then (bst n t R S.gone S.gone.length).2 else now) = now
    split <;> omega
  have hlen : (S.gone ++ [(⟨now, x.l, 0, 0, 0⟩ : It)]).length = S.gone.length + 1 := by simp
  rw [e]
  refine ⟨h.len, hxe.2.2.1, ?_, ?_, ?_, ?_, ?_, ?_, ?_⟩
  · simpa using hs.2
  · intro y hy
    have hy' : y ∈ s.q := by simpa using hy
    have h2 := h.each y (by simp [hy'])
    exact ⟨hs.1 y.n (List.mem_map.2 ⟨y, hy', rfl⟩), h2.2⟩
  · intro y hy
    rcases List.mem_append.1 hy with hy | hy
    · exact ⟨(h.gok y hy).1, Int.le_trans (h.gok y hy).2 hl⟩
    · simp at hy
      subst hy
      refine ⟨?_, Int.le_refl _⟩
      simp only [It.ok, Bool.and_eq_true, wth_iff]
      omega
  · rw [List.map_append, List.pairwise_append]
    refine ⟨h.gord, by simp, ?_⟩
    intro a ha b hb
    simp only [List.map_cons, List.map_nil, List.mem_singleton] at hb
    obtain ⟨y, hy, rfl⟩ := List.mem_map.1 ha
    have := (h.gok y hy).2
    omega
  · rw [hlen, hbs]; exact Int.le_refl _
  · rw [hlen, hbs]
    show drw t (pas n t R s.lev s.lat now) x.l = pas n t R (pas n t R s.lev s.lat now - x.l * t) now now
    unfold drw
    rw [if_pos hd2]
    show _ = pas n t R _ now now
    unfold pas
    rw [if_pos (Int.le_refl _)]
  · intro j hj
    rw [hlen] at hj
    by_cases hj' : j < S.gone.length
    · rw [bok_snoc _ _ hj']; exact h.ok j hj'
    · obtain rfl : j = S.gone.length := by omega
      rw [bok_at hy, bst_snoc, ← hp]
      simpa using hd2
/-- A step. -/
theorem sh_step {f B : Nat} {P Rm n t R : Int} (hb : okB n t R) {S : LwS} {s : ShS (List Hd)} {nn : Nat} {tt : Int} {st : Stp} (h : ShJ n t R S s nn) (hlat : s.lat ≤ tt) (h0 : 0 ≤ tt) (h1 : tt ≤ st.lt) (h2 : st.lt ≤ 20000000) (hok : st.what = 0 → (hdOf st nn).ok = true) :
    ShJ n t R (lwS S st (stepQ (ShaperM (FifoM f P Rm false) B n t R) s nn st).2) (stepQ (ShaperM (FifoM f P Rm false) B n t R) s nn st).1.1 (stepQ (ShaperM (FifoM f P Rm false) B n t R) s nn st).1.2 ∧ (0 ≤ (stepQ (ShaperM (FifoM f P Rm false) B n t R) s nn st).2.taken → S.last < (stepQ (ShaperM (FifoM f P Rm false) B n t R) s nn st).2.taken ∧ (stepQ (ShaperM (FifoM f P Rm false) B n t R) s nn st).2.taken < (lens1 S st).length) := by
  obtain ⟨⟨hn, _⟩, ⟨ht, _⟩, hR, _⟩ := hb
  by_cases hw : st.what = 0
  · have hstep : stepQ (ShaperM (FifoM f P Rm false) B n t R) s nn st = ((((putS (M := FifoM f P Rm false) R s st.lt (hdOf st nn)).1 : ShS (List Hd)), nn + 1), ⟨-1, 0, -1, lenS (M := FifoM f P Rm false) (putS (M := FifoM f P Rm false) R s st.lt (hdOf st nn)).1, bytesS (M := FifoM f P Rm false) (putS (M := FifoM f P Rm false) R s st.lt (hdOf st nn)).1, (putS (M := FifoM f P Rm false) R s st.lt (hdOf st nn)).2.map Hd.n⟩) := by simp only [stepQ, if_pos hw]; rfl
    rw [hstep]
    have hneg : ¬ (0 : Int) ≤ -1 := by decide
    refine ⟨?_, fun h => absurd h hneg⟩
    have e1 : lens1 S st = S.lens ++ [st.l] := by unfold lens1; rw [if_pos hw]
    unfold lwS
    rw [if_neg hneg, e1]
    have hold : ∀ x ∈ s.hold.toList ++ s.q, S.last < x.n ∧ 0 ≤ x.n ∧ x.n < (nn + 1 : Nat) ∧ (S.lens ++ [st.l])[x.n.toNat]? = some x.l ∧ x.ok = true := by
      intro x hx
      obtain ⟨a1, a2, a3, a4, a5⟩ := h.each x hx
      exact ⟨a1, a2, by omega, by rw [List.getElem?_append_left (List.getElem?_eq_some_iff.1 a4).1]; exact a4, a5⟩
    have hlen : (S.lens ++ [st.l]).length = nn + 1 := by rw [List.length_append, h.len]; rfl
    have hlast := h.last
    show ShJ n t R _ (putS (M := FifoM f P Rm false) R s st.lt (hdOf st nn)).1 (nn + 1)
    unfold putS
    split
    · exact ⟨hlen, by show S.last < ((nn + 1 : Nat) : Int); omega, h.sorted, hold, h.gok, h.gord, h.bl, h.lv, h.ok⟩
    · show ShJ n t R _ { s with q := (putF P Rm false s.q (hdOf st nn)).2 } (nn + 1)
      have hq : (putF P Rm false s.q (hdOf st nn)).2 = s.q ∨ (putF P Rm false s.q (hdOf st nn)).2 = s.q ++ [hdOf st nn] := by
        unfold putF
        simp only [Bool.false_eq_true, if_false]
        split
        · exact Or.inl rfl
        · exact Or.inr rfl
      rcases hq with e | e
      · rw [e]
        exact ⟨hlen, by show S.last < ((nn + 1 : Nat) : Int); omega, h.sorted, hold, h.gok, h.gord, h.bl, h.lv, h.ok⟩
      · rw [e]
        refine ⟨hlen, by show S.last < ((nn + 1 : Nat) : Int); omega, ?_, ?_, h.gok, h.gord, h.bl, h.lv, h.ok⟩
        · rw [← List.append_assoc, List.map_append, List.pairwise_append]
          refine ⟨h.sorted, by simp, ?_⟩
          intro a ha b hb
          simp only [List.map_cons, List.map_nil, List.mem_singleton] at hb
          obtain ⟨y, hy, rfl⟩ := List.mem_map.1 ha
          have := (h.each y hy).2.2.1
          subst hb
          exact this
        · intro x hx
          rw [← List.append_assoc] at hx
          rcases List.mem_append.1 hx with hx | hx
          · exact hold x hx
          · simp only [List.mem_singleton] at hx
            subst hx
            refine ⟨?_, by show (0 : Int) ≤ (nn : Int); omega, by show (nn : Int) < _; omega, ?_, hok hw⟩
            · show S.last < (nn : Int)
              exact hlast
            · show (S.lens ++ [st.l])[((nn : Int)).toNat]? = some st.l
              rw [Int.toNat_natCast, ← h.len]
              simp
  · have e1 : lens1 S st = S.lens := by unfold lens1; rw [if_neg hw]
    have hlk := look_J f P Rm h st.lt
    obtain ⟨e2, e3⟩ := lookF_same f P Rm s st.lt
    have hlat' : (lookF f P Rm s st.lt).lat ≤ st.lt := by rw [e3]; omega
    have hneg : ¬ (0 : Int) ≤ -1 := by decide
    by_cases hw1 : st.what = 1
    · have hstep : stepQ (ShaperM (FifoM f P Rm false) B n t R) s nn st = ((((takeS (M := FifoM f P Rm false) n t R s st.lt).1 : ShS (List Hd)), nn), ⟨if (takeS (M := FifoM f P Rm false) n t R s st.lt).2.2.2 then (takeS (M := FifoM f P Rm false) n t R s st.lt).2.2.1.n else -1, if (takeS (M := FifoM f P Rm false) n t R s st.lt).2.2.2 then (takeS (M := FifoM f P Rm false) n t R s st.lt).2.2.1.m else 0, -1, lenS (M := FifoM f P Rm false) (takeS (M := FifoM f P Rm false) n t R s st.lt).1, bytesS (M := FifoM f P Rm false) (takeS (M := FifoM f P Rm false) n t R s st.lt).1, (takeS (M := FifoM f P Rm false) n t R s st.lt).2.1.map Hd.n⟩) := by simp only [stepQ, if_neg hw, if_pos hw1]; rfl
      rw [hstep]
      have hT : takeS (M := FifoM f P Rm false) n t R s st.lt = match (lookF f P Rm s st.lt).hold with
        | none => (lookF f P Rm s st.lt, [], hd0, false)
        | some x => if drwB t (pas n t R (lookF f P Rm s st.lt).lev (lookF f P Rm s st.lt).lat st.lt) x.l = true then ({ lookF f P Rm s st.lt with lev := drw t (pas n t R (lookF f P Rm s st.lt).lev (lookF f P Rm s st.lt).lat st.lt) x.l, lat := lat1 (lookF f P Rm s st.lt).lat st.lt, hold := none }, [], x, true) else ({ lookF f P Rm s st.lt with lev := drw t (pas n t R (lookF f P Rm s st.lt).lev (lookF f P Rm s st.lt).lat st.lt) x.l, lat := lat1 (lookF f P Rm s st.lt).lat st.lt }, [], hd0, false) := by
        rw [e2, e3]; rfl
      rw [hT]
      generalize lookF f P Rm s st.lt = s1 at *
      cases hh : s1.hold with
      | none =>
        simp only [Bool.false_eq_true, if_false]
        refine ⟨?_, fun h => absurd h hneg⟩
        unfold lwS
        rw [if_neg hneg, e1]
        exact hlk
      | some x =>
        simp only
        cases hd : drwB t (pas n t R s1.lev s1.lat st.lt) x.l with
        | true =>
          obtain ⟨⟨g1, g2, g3, g4⟩, g5⟩ := hlk.goes hn ht hR hlat' (by omega) h2 hh hd
          simp only [if_true]
          unfold lwS
          simp only [if_pos g2, e1]
          rw [List.getD_eq_getElem?_getD, g4]
          exact ⟨g5, fun _ => ⟨g1, by rw [h.len]; exact g3⟩⟩
        | false =>
          simp only [Bool.false_eq_true, if_false]
          refine ⟨?_, fun h => absurd h hneg⟩
          unfold lwS
          rw [if_neg hneg, e1]
          have e4 : drw t (pas n t R s1.lev s1.lat st.lt) x.l = pas n t R s1.lev s1.lat st.lt := by
            unfold drw
            rw [if_neg (by simpa [drwB] using hd)]
          rw [e4]
          exact hlk.told hn ht hR hlat'
    · have hstep : stepQ (ShaperM (FifoM f P Rm false) B n t R) s nn st = ((((whenS (M := FifoM f P Rm false) n t R s st.lt).1 : ShS (List Hd)), nn), ⟨-1, 0, if (whenS (M := FifoM f P Rm false) n t R s st.lt).2.2 then (whenS (M := FifoM f P Rm false) n t R s st.lt).2.1 else -1, lenS (M := FifoM f P Rm false) (whenS (M := FifoM f P Rm false) n t R s st.lt).1, bytesS (M := FifoM f P Rm false) (whenS (M := FifoM f P Rm false) n t R s st.lt).1, []⟩) := by simp only [stepQ, if_neg hw, if_neg hw1]; rfl
      rw [hstep]
      refine ⟨?_, fun h => absurd h hneg⟩
      unfold lwS
      rw [if_neg hneg, e1]
      show ShJ n t R _ (whenS (M := FifoM f P Rm false) n t R s st.lt).1 nn
      have hT : whenS (M := FifoM f P Rm false) n t R s st.lt = match (lookF f P Rm s st.lt).hold with
        | none => (lookF f P Rm s st.lt, st.lt, !(lookF f P Rm s st.lt).q.isEmpty)
        | some x => if x.l ≤ R then ({ lookF f P Rm s st.lt with lev := pas n t R (lookF f P Rm s st.lt).lev (lookF f P Rm s st.lt).lat st.lt, lat := lat1 (lookF f P Rm s st.lt).lat st.lt }, whn n t (pas n t R (lookF f P Rm s st.lt).lev (lookF f P Rm s st.lt).lat st.lt) (lat1 (lookF f P Rm s st.lt).lat st.lt) x.l, true) else ({ lookF f P Rm s st.lt with lev := pas n t R (lookF f P Rm s st.lt).lev (lookF f P Rm s st.lt).lat st.lt, lat := lat1 (lookF f P Rm s st.lt).lat st.lt }, 0, false) := by
        rw [e2, e3]; rfl
      rw [hT]
      generalize lookF f P Rm s st.lt = s1 at *
      cases hh : s1.hold with
      | none => exact hlk
      | some x =>
        simp only
        have := hlk.told hn ht hR hlat'
        split
        · exact this
        · exact this
/-- Where When tells a time, Take gives from that time on. -/
theorem when_take {f : Nat} {P Rm n t R : Int} (hb : okB n t R) {s : ShS (List Hd)} {t1 t2 : Int} (hlat : s.lat ≤ t1) (hl0 : 0 ≤ s.lev) (hl1 : s.lev ≤ R * t) (h12 : t1 ≤ t2) (hok : (whenS (M := FifoM f P Rm false) n t R s t1).2.2 = true) :
    (takeS (M := FifoM f P Rm false) n t R (whenS (M := FifoM f P Rm false) n t R s t1).1 t2).2.2.2 = decide ((whenS (M := FifoM f P Rm false) n t R s t1).2.1 ≤ t2) := by
  obtain ⟨⟨hn, _⟩, ⟨ht, _⟩, hR, _⟩ := hb
  obtain ⟨e2, e3⟩ := lookF_same f P Rm s t1
  have hT : whenS (M := FifoM f P Rm false) n t R s t1 = match (lookF f P Rm s t1).hold with
    | none => (lookF f P Rm s t1, t1, !(lookF f P Rm s t1).q.isEmpty)
    | some x => if x.l ≤ R then ({ lookF f P Rm s t1 with lev := pas n t R s.lev s.lat t1, lat := lat1 s.lat t1 }, whn n t (pas n t R s.lev s.lat t1) (lat1 s.lat t1) x.l, true) else ({ lookF f P Rm s t1 with lev := pas n t R s.lev s.lat t1, lat := lat1 s.lat t1 }, 0, false) := rfl
  rw [hT] at hok ⊢
  cases hh : (lookF f P Rm s t1).hold with
  | none =>
    rw [hh] at hok
    have := look_none hh
    simp [this] at hok
  | some x =>
    rw [hh] at hok
    simp only at hok ⊢
    by_cases hr : x.l ≤ R
    · simp only [if_pos hr]
      have el := lat1_eq hlat
      have hp := pas_room (n := n) (t := t) (R := R) (lat := s.lat) (now := t1) hn hl0 hl1
      rw [el, hh]
      generalize pas n t R s.lev s.lat t1 = lv at *
      have e5 : takeS (M := FifoM f P Rm false) n t R ({ q := (lookF f P Rm s t1).q, lev := lv, lat := t1, hold := some x } : ShS (List Hd)) t2 = if drwB t (pas n t R lv t1 t2) x.l = true then (({ q := (lookF f P Rm s t1).q, lev := drw t (pas n t R lv t1 t2) x.l, lat := lat1 t1 t2, hold := none } : ShS (List Hd)), [], x, true) else (({ q := (lookF f P Rm s t1).q, lev := drw t (pas n t R lv t1 t2) x.l, lat := lat1 t1 t2, hold := some x } : ShS (List Hd)), [], hd0, false) := rfl
      refine (congrArg (fun r : ShS (List Hd) × List Hd × Hd × Bool => r.2.2.2) e5).trans ?_
      have hw := whn_bounds (n := n) (t := t) (lev := lv) (lat := t1) (l := x.l) hn
      obtain ⟨w1, w2, w3⟩ := hw
      have hpe := pas_eq (n := n) (t := t) (R := R) (lev := lv) (lat := t1) (now := t2) h12 hp.2
      have hxt : x.l * t ≤ R * t := Int.mul_le_mul_of_nonneg_right hr (by omega)
      have key : (x.l * t ≤ pas n t R lv t1 t2) ↔ whn n t lv t1 x.l ≤ t2 := by
        rw [hpe]
        generalize whn n t lv t1 x.l = z at *
        rw [Int.sub_mul] at w2
        constructor
        · intro h
          by_cases hc : z ≤ t2
          · exact hc
          · exfalso
            have h5 := w3 (by omega)
            rw [Int.sub_mul] at h5
            have h6 : t2 * n ≤ (z - 1) * n := Int.mul_le_mul_of_nonneg_right (by omega) (by omega)
            omega
        · intro h
          have h6 : z * n ≤ t2 * n := Int.mul_le_mul_of_nonneg_right h (by omega)
          omega
      cases hd : drwB t (pas n t R lv t1 t2) x.l with
      | true =>
        have := key.1 (by simpa [drwB] using hd)
        simp [this]
      | false =>
        have h7 : ¬ whn n t lv t1 x.l ≤ t2 := fun h => by
          have := key.2 h
          simp [drwB] at hd
          omega
        simp [h7]
    · simp [hr] at hok
theorem take_nonneg {f : Nat} {P Rm n t R : Int} {S : LwS} {s : ShS (List Hd)} {nn : Nat} (h : ShJ n t R S s nn) (now : Int) : 0 ≤ (takeS (M := FifoM f P Rm false) n t R s now).2.2.1.n := by
  have hlk := look_J f P Rm h now
  have hT : takeS (M := FifoM f P Rm false) n t R s now = match (lookF f P Rm s now).hold with
    | none => (lookF f P Rm s now, [], hd0, false)
    | some x => if drwB t (pas n t R s.lev s.lat now) x.l = true then ({ lookF f P Rm s now with lev := drw t (pas n t R s.lev s.lat now) x.l, lat := lat1 s.lat now, hold := none }, [], x, true) else ({ lookF f P Rm s now with lev := drw t (pas n t R s.lev s.lat now) x.l, lat := lat1 s.lat now }, [], hd0, false) := rfl
  rw [hT]
  cases hh : (lookF f P Rm s now).hold with
  | none => exact Int.le_refl _
  | some x =>
    have := hlk.each x (by rw [hh]; simp)
    simp only
    split
    · exact this.2.1
    · exact Int.le_refl _
end Go.Proofs.YtfakjedolecdcaaGreatDoor
