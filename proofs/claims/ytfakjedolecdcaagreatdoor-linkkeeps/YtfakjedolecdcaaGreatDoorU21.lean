/-
  shaper.Shaper over whatever queue: what When, Len and Bytes return, and what they leave. Conditions: the queue's methods do what a model of it tells (a premise); a bucket that may be; a level within its room.
  A Shaper over whatever queue is a queue as plain.Play asks it: its model, which loses and makes no packet, told late. Conditions: a bucket that may be; the queue's methods do what a model of it tells (a premise).
  shaper.New. Conditions: none beyond a bucket that may be.
  A list at the head of a block, its other cells; what a call hands back. Nothing of the program is claimed here by itself.
  early.Red: its state, its mean, and the tape. Conditions: the queue lies in memory; numbers within bounds.
-/
import Derived.Test.YtfakjedolecdcaaGreatDoorU20
import Derived.Test.YtfakjedolecdcaaGreatDoorU19
import Derived.Test.YtfakjedolecdcaaGreatDoorQf
import Derived.Test.YtfakjedolecdcaaGreatDoorU7
namespace Go.Proofs.YtfakjedolecdcaaGreatDoor
open Go.RowKit Go.Extern.Stop Go.Stop Go.Extern

theorem glen_any {M : QM} {B : Nat} {n t R : Int} {F : Nat → Prop} {s : SgS M.σ} {nx : Hd} {lv : Value} {cont : M.σ → List (Int × Int)} {kk : Nat} {tt : Int} {nn : Nat} (hM : M.Inn cont kk) (w : World) (h : SgAt M B n t R w F s nx lv) (hI : SgI M cont t R tt nn s) (hn : nn ≤ 1001) :
    Calls Tryz.prog 186 #[.pointer (some ⟨B, 0, none⟩)] w fun e w' => e = .returned (.int .i64 (lenG s)) ∧ Below w.heap.size w w' := by
  obtain ⟨_, _, _, c12, _⟩ := sg_cells h.blk
  have HW := gwithin_any w h
  have HCL := hM.fine.cL h.inner hI.q hn
  have hmL := hM.fine.mL
  have heL := hM.fine.eL
  have hk20 := hM.few
  obtain ⟨⟨hs0, hs1⟩, _⟩ := hM.tame.len hI.q hn
  cases hh : s.hold with
  | none =>
    have HE : Hid (lenG s = M.len s.q) := by show _ = _; unfold lenG; rw [hh]
    rw [hh] at c12
    simp only [Option.isSome] at c12
    clear h hI hM
    go_enter Tryz.func186, Tryz.ntmps186
    go_wp2_with fail
    refine HW.mono ?_
    rintro e w0 ⟨rfl, rfl⟩
    go_wp2_with fail
    refine HCL.mono ?_
    rintro e w1 ⟨rfl, hb1⟩
    go_wp2
    go_ret
    exact ⟨by rw [HE.out]; rfl, hb1⟩
  | some x =>
    have HE : Hid (lenG s = M.len s.q + 1) := by show _ = _; unfold lenG; rw [hh]
    rw [hh] at c12
    simp only [Option.isSome] at c12
    clear h hI hM
    go_enter Tryz.func186, Tryz.ntmps186
    go_wp2_with fail
    refine HW.mono ?_
    rintro e w0 ⟨rfl, rfl⟩
    go_wp2_with fail
    refine HCL.mono ?_
    rintro e w1 ⟨rfl, hb1⟩
    go_wp2
    go_ret
    exact ⟨by rw [HE.out]; rfl, hb1⟩
set_option maxRecDepth 20000 in
set_option maxHeartbeats 1000000 in
theorem gbytes_any {M : QM} {B : Nat} {n t R : Int} {F : Nat → Prop} {s : SgS M.σ} {nx : Hd} {lv : Value} {cont : M.σ → List (Int × Int)} {kk : Nat} {tt : Int} {nn : Nat} (hM : M.Inn cont kk) (w : World) (h : SgAt M B n t R w F s nx lv) (hI : SgI M cont t R tt nn s) (hn : nn ≤ 1001) :
    Calls Tryz.prog 185 #[.pointer (some ⟨B, 0, none⟩)] w fun e w' => e = .returned (.int .i64 (bytesG s)) ∧ Below w.heap.size w w' := by
  obtain ⟨_, _, ⟨_, c7, _⟩, c12, _⟩ := sg_cells h.blk
  have hB := h.blk.lt
  have HW : Hid (∀ W : World, W.heap[B]? = w.heap[B]? → M.At W F s.q → Hs W lv s.lost → Calls Tryz.prog 190 #[.pointer (some ⟨B, 0, none⟩)] W fun e w' => e = .returned (.iface M.ty M.rv) ∧ w' = W) := fun W h1 h2 h3 => gwithin_any W ⟨h.blk.same h1, h2, h.out, h.eq, h3, h.own⟩
  have HCB : Hid (∀ W : World, M.At W F s.q → Calls Tryz.prog M.fB #[M.rB] W fun e w' => e = .returned (.int .i64 (M.bytes s.q)) ∧ Below W.heap.size W w') := fun W h1 => hM.fine.cB h1 hI.q hn
  have HAT : Hid (∀ W : World, (∀ k, F k → W.heap[k]? = w.heap[k]?) → M.At W F s.q) := fun W h1 => hM.fine.kept h.inner h1
  have HLT : Hid (∀ W : World, (∀ k, lv.ownBlock = some k → W.heap[k]? = w.heap[k]?) → Hs W lv s.lost) := fun W h1 => Seg.kept h.lost h1
  have hmB := hM.fine.mB
  have heB := hM.fine.eB
  have hk20 := hM.few
  obtain ⟨_, hs0, hs1⟩ := hM.tame.len hI.q hn
  cases hh : s.hold with
  | none =>
    have HE : Hid (bytesG s = M.bytes s.q) := by show _ = _; unfold bytesG; rw [hh]
    rw [hh] at c12
    simp only [Option.isSome] at c12
    clear h hI hM
    go_enter Tryz.func185, Tryz.ntmps185
    go_wp2_with fail
    refine (HW.out w rfl (HAT.out w (fun _ _ => rfl)) (HLT.out w (fun _ _ => rfl))).mono ?_
    rintro e w0 ⟨rfl, rfl⟩
    go_wp2_with fail
    refine (HCB.out w0 (HAT.out w0 (fun _ _ => rfl))).mono ?_
    rintro e w1 ⟨rfl, hb1⟩
    go_wp2
    go_ret
    exact ⟨by rw [HE.out]; rfl, hb1⟩
  | some x =>
    have hxl := hI.held hh
    obtain rfl := h.eq x hh
    have HE : Hid (bytesG s = M.bytes s.q + nx.l) := by show _ = _; unfold bytesG; rw [hh]
    have HC7 : Hid (∀ W : World, W.heap[B]? = w.heap[B]? → W.cell? ⟨B, 7, none⟩ = some (.int .i64 nx.l)) := fun W hW => (World.cell?_of_block (w := w) hW).trans c7
    rw [hh] at c12
    simp only [Option.isSome] at c12
    have hwr : IntKind.i64.wrap (M.bytes s.q + nx.l) = M.bytes s.q + nx.l := by rw [IntKind.wrap_i64]; omega
    clear h hI hM hs0 hs1 hxl
    go_enter Tryz.func185, Tryz.ntmps185
    go_wp2
    go_region_held3 (fun W => W.cell? ⟨B, 7, none⟩ = some (.int .i64 nx.l)) (first | exact HC7.out _ (hb1.block B (by exact hB)) | (refine HC7.out _ ?_; rfl)) (first | (go_at_call 190; refine (HW.out _ ?_ (HAT.out _ ?_) (HLT.out _ ?_)).mono ?_; rfl; exact fun _ _ => rfl; exact fun _ _ => rfl; rintro e w0 ⟨rfl, rfl⟩) | (refine (HCB.out _ (HAT.out _ ?_)).mono ?_; exact fun _ _ => rfl; rintro e w1 ⟨rfl, hb1⟩))
    all_goals
      go_wp2
      go_ret
      exact ⟨by rw [HE.out]; rfl, (Below.refl w.heap.size w).drew.trans hb1⟩
set_option maxHeartbeats 2000000 in
theorem gwhen_any {M : QM} {B : Nat} {n t R : Int} {F : Nat → Prop} {s : SgS M.σ} {nx : Hd} {lv : Value} {cont : M.σ → List (Int × Int)} {kk : Nat} {tt : Int} {nn : Nat} (now : Int) (hM : M.Inn cont kk) (hb : okB n t R) (w : World) (h : SgAt M B n t R w F s nx lv) (hI : SgI M cont t R tt nn s) (h0 : 0 ≤ tt) (h1 : tt ≤ now) (h2 : now ≤ 20000000) (hn : nn ≤ 1000) :
    Calls Tryz.prog 189 #[.pointer (some ⟨B, 0, none⟩), .int .i64 now] w fun e w' => e = .returned (.tuple #[.int .i64 (whenG n t R s now).2.1, .bool (whenG n t R s now).2.2]) ∧ LookG M B n t R (sgF B F lv) w (whenG n t R s now).1 w' := by
  have HM : Hid M.Fine := hM.fine
  have HI2 : Hid (SgI M cont t R now nn (lookG s now)) := lookG_inv hM now hI h0 h1 h2 hn
  have HLK := glook_any now hM.fine w h hI.q (by have := hI.few_lost; omega) h0 h1 h2 hn
  have HE : Hid ((lookG s now).lev = s.lev ∧ (lookG s now).lat = s.lat) := lookG_same s now
  have HTS : Hid (whenG n t R s now = match (lookG s now).hold with
    | none => ({ lookG s now with q := (M.when (lookG s now).q now).1 }, (M.when (lookG s now).q now).2.1, (M.when (lookG s now).q now).2.2)
    | some x => if x.l ≤ R then ({ lookG s now with lev := pas n t R s.lev s.lat now, lat := lat1 s.lat now }, whn n t (pas n t R s.lev s.lat now) (lat1 s.lat now) x.l, true) else ({ lookG s now with lev := pas n t R s.lev s.lat now, lat := lat1 s.lat now }, 0, false)) := rfl
  obtain ⟨G, hG⟩ : ∃ G, sgF B F lv = G := ⟨_, rfl⟩
  have HGB : Hid (G B) := by rw [← hG]; exact Or.inl rfl
  obtain ⟨s1, hs1⟩ : ∃ s1, lookG s now = s1 := ⟨_, rfl⟩
  obtain ⟨r, hr⟩ : ∃ r, whenG n t R s now = r := ⟨_, rfl⟩
  rw [hs1] at HI2 HLK HE HTS
  rw [hr] at HTS ⊢
  rw [hG] at HLK ⊢
  have HB : Hid (okB n t R) := hb
  have HNN : Hid (0 ≤ now ∧ now ≤ 20000000 ∧ nn ≤ 1000) := ⟨by omega, h2, hn⟩
  clear hs1 hr h hM hI hb hG
  go_enter Tryz.func189, Tryz.ntmps189
  go_wp2_with fail
  refine HLK.mono ?_
  rintro e w1 ⟨rfl, hl1⟩
  clear HLK
  have HOT1 : Hid (Ot G w w1) := hl1.ot
  obtain ⟨F1, nx1, lv1, hA1, hF1⟩ := hl1.ex
  have HF1 : Hid (∀ k, sgF B F1 lv1 k → G k ∨ w.heap.size ≤ k) := hF1
  have HA1 : Hid (SgAt M B n t R w1 F1 s1 nx1 lv1) := hA1
  obtain ⟨c0, c3, ⟨d6, d7, d8, d9, d10, d11⟩, c12, c13, ⟨f6, f7, f8, f9, f10, f11⟩, f12, f13⟩ := sg_cells hA1.blk
  have hB1 := hA1.blk.lt
  clear hA1 hF1 hl1
  cases hh : s1.hold with
  | none =>
    rw [hh] at c12
    simp only [Option.isSome] at c12
    have HTS2 : Hid (r = ({ s1 with q := (M.when s1.q now).1 }, (M.when s1.q now).2.1, (M.when s1.q now).2.2)) := by
      show _ = _
      rw [show r = _ from HTS.out, hh]
    have hmW := HM.out.mW
    have heW := HM.out.eW
    have HW := gwithin_any w1 HA1.out
    have HCW := HM.out.cW now HA1.out.inner HI2.out.q HNN.out.1 (Int.le_refl _) HNN.out.2.1 HNN.out.2.2
    clear HTS hh
    go_wp2_with fail
    refine HW.mono ?_
    rintro e w2 ⟨rfl, rfl⟩
    go_wp2_with fail
    refine HCW.mono ?_
    rintro e w3 ⟨F3, rfl, ha3, hf3, ho3⟩
    go_wp2
    go_ret2
    have hlq := HA1.out.queue ho3 ha3 hf3
    refine ⟨by rw [HTS2.out]; rfl, ?_⟩
    rw [HTS2.out]
    obtain ⟨F4, nx4, lv4, h4, g4⟩ := hlq.ex
    have hs1' := HOT1.out.size
    refine ⟨⟨F4, nx4, lv4, h4, fun k hk => ?_⟩, HOT1.out.trans' hlq.ot (fun k hk hkl => ?_)⟩
    · rcases g4 k hk with h' | h'
      · exact HF1.out k h'
      · right; omega
    · rcases HF1.out k hk with h' | h'
      · exact h'
      · omega
  | some x =>
    obtain rfl := HA1.out.eq x hh
    rw [hh] at c12
    simp only [Option.isSome] at c12
    have hxl := HI2.out.held hh
    have HC7 : Hid (∀ W : World, W.heap[B]? = w1.heap[B]? → W.cell? ⟨B, 7, none⟩ = some (.int .i64 nx1.l)) := fun W hW => (World.cell?_of_block (w := w1) hW).trans d7
    have HHH : Hid (s1.hold = some nx1) := hh
    have HTK : Hid (∀ W : World, W.heap[B]? = w1.heap[B]? → Calls Tryz.prog 193 #[.pointer (some ⟨B, 1, none⟩), .int .i64 now, .int .i64 nx1.l] W fun e w' => e = .returned (.tuple #[.int .i64 r.2.1, .bool r.2.2]) ∧ StG w' B 1 [.iface M.ty M.rv] (sgPost nx1 true lv1) 171 n t R (pas n t R s.lev s.lat now) (lat1 s.lat now) ∧ Oth (· = B) W w') := by
      intro W hW
      have hst := HA1.out.blk.same hW
      have hi := HI2.out
      have hnn := HNN.out
      rw [HE.out.1, HE.out.2, hh] at hst
      have e1 : r = _ := HTS.out
      rw [hh] at e1
      simp only at e1
      by_cases hr : nx1.l ≤ R
      · rw [if_pos hr] at e1
        rw [e1]
        exact when_yes now nx1.l W hst HB.out (by rw [← HE.out.1]; exact hi.l0) (by rw [← HE.out.1]; exact hi.l1) (by rw [← HE.out.2]; exact hi.t0) (by rw [← HE.out.2]; have := hi.t1; omega) (by omega) (by omega) hr
      · rw [if_neg hr] at e1
        rw [e1]
        exact when_no now nx1.l W hst HB.out (by rw [← HE.out.1]; exact hi.l0) (by rw [← HE.out.1]; exact hi.l1) (by rw [← HE.out.2]; exact hi.t0) (by omega) (by omega) (by omega)
    have HR1 : Hid (r.1 = { q := s1.q, lev := pas n t R s.lev s.lat now, lat := lat1 s.lat now, hold := some nx1, lost := s1.lost }) := by
      show _ = _
      have e1 : r = _ := HTS.out
      rw [hh] at e1
      simp only at e1
      split at e1 <;> (rw [e1, ← HHH.out])
    clear HTS hh hxl
    obtain ⟨ra, ro, rb⟩ := r
    simp only at HTK HR1 ⊢
    go_wp2
    go_region_held3 (fun W => W.cell? ⟨B, 7, none⟩ = some (.int .i64 nx1.l)) (first | exact e7 | (refine HC7.out _ ?_; rfl)) ((go_at_call 193; refine (HTK.out _ ?_).mono ?_; rfl; rintro e w3 ⟨rfl, hst3, ho3⟩; have HOT3 : Hid (Ot G w w3) := HOT1.out.trans' (c := w3) (T := (· = B)) (by exact ⟨ho3.os, ho3.tape, ho3.output, ho3.size, ho3.block⟩) (fun k e _ => by subst e; exact HGB.out); have hA3 : SgAt M B n t R w3 F1 { q := s1.q, lev := pas n t R s.lev s.lat now, lat := lat1 s.lat now, hold := some nx1, lost := s1.lost } nx1 lv1 := ⟨hst3, HM.out.kept HA1.out.inner (fun k hk => (ho3.block k (by exact HM.out.low HA1.out.inner k hk) (fun e => HA1.out.out (by rw [← e]; exact hk)))), HA1.out.out, fun y hy => by simpa using hy, Seg.kept HA1.out.lost (fun k e => ho3.block k (by exact Seg.lt HA1.out.lost e) (HA1.out.own k e).2), HA1.out.own⟩; have HA3 : Hid (SgAt M B n t R w3 F1 { q := s1.q, lev := pas n t R s.lev s.lat now, lat := lat1 s.lat now, hold := some nx1, lost := s1.lost } nx1 lv1) := hA3; obtain ⟨k0, k3, ⟨e6, e7, e8, e9, e10, e11⟩, k12, k13, _⟩ := sg_cells HA3.out.blk; clear hA3 hst3 ho3))
    all_goals
      go_wp2
      go_ret2
      refine ⟨rfl, ?_⟩
      rw [HR1.out]
      exact ⟨⟨F1, nx1, lv1, HA3.out, HF1.out⟩, HOT3.out⟩
end Go.Proofs.YtfakjedolecdcaaGreatDoor
namespace Go.Proofs.YtfakjedolecdcaaGreatDoor
open Go.RowKit Go.Extern.Stop Go.Stop Go.Extern

/-- A shaper in block B over a queue. -/
def ShaperGM (M : QM) (cont : M.σ → List (Int × Int)) (B : Nat) (n t R : Int) : QM where
  σ := SgS M.σ
  ty := 131
  rv := .pointer (some ⟨B, 0, none⟩)
  fP := 187
  fT := 188
  fW := 189
  fL := 186
  fB := 185
  rP := .pointer (some ⟨B, 0, none⟩)
  rT := .pointer (some ⟨B, 0, none⟩)
  rW := .pointer (some ⟨B, 0, none⟩)
  rL := .pointer (some ⟨B, 0, none⟩)
  rB := .pointer (some ⟨B, 0, none⟩)
  At := fun w G s => ∃ F nx lv, SgAt M B n t R w F s nx lv ∧ ∀ k, G k ↔ sgF B F lv k
  put := fun s now x => putG R s now x
  take := fun s now => takeG n t R s now
  when := fun s now => whenG n t R s now
  len := fun s => lenG s
  bytes := fun s => bytesG s
  inv := fun tt nn s => SgI M cont t R tt nn s
theorem LookG.at {M : QM} {cont : M.σ → List (Int × Int)} {B : Nat} {n t R : Int} {F G : Nat → Prop} {lv : Value} {w w' : World} {s : SgS M.σ} (h : LookG M B n t R (sgF B F lv) w s w') (hG : ∀ k, G k ↔ sgF B F lv k) : ∃ G', (ShaperGM M cont B n t R).At w' G' s ∧ (∀ k, G' k → G k ∨ w.heap.size ≤ k) ∧ Ot G w w' := by
  obtain ⟨F', nx, lv', h1, h2⟩ := h.ex
  refine ⟨sgF B F' lv', ⟨F', nx, lv', h1, fun _ => Iff.rfl⟩, fun k hk => ?_, h.ot.mono (fun k _ hk => (hG k).2 hk)⟩
  rcases h2 k hk with h | h
  · exact Or.inl ((hG k).2 h)
  · exact Or.inr h
theorem shaperGM_fine {M : QM} {cont : M.σ → List (Int × Int)} {kk : Nat} (hM : M.Inn cont kk) (B : Nat) {n t R : Int} (hb : okB n t R) : (ShaperGM M cont B n t R).Fine where
  kept := by
    rintro w w' G s ⟨F, nx, lv, h, hG⟩ hk
    exact ⟨F, nx, lv, h.kept hM.fine (fun k hf => hk k ((hG k).2 hf)), hG⟩
  low := by
    rintro w G s ⟨F, nx, lv, h, hG⟩ k hk
    exact h.low hM.fine k ((hG k).1 hk)
  mP := mShaperP _
  mT := mShaperT _
  mW := mShaperW _
  mL := mShaperL _
  mB := mShaperB _
  eP := eShaperP
  eT := eShaperT
  eW := eShaperW
  eL := eShaperL
  eB := eShaperB
  cP := by
    rintro w G s tt nn now x ⟨F, nx, lv, h, hG⟩ hI h0 h1 h2 hok hxa hxn hn
    refine (gput_any now x hM.fine w h hI.q h0 h1 h2 hok hxa hxn hn).mono ?_
    rintro e w' ⟨u, rfl, hu, hl, hk⟩
    obtain ⟨G', g1, g2, g3⟩ := hl.at (cont := cont) hG
    exact ⟨u, G', rfl, hu, g1, g2, fun k hk' => (hk k hk').imp (hG k).2 id, g3⟩
  iP := by
    intro (s : SgS M.σ) tt nn now x hI h0 h1 h2 hok hxa hxn hn
    exact putG_inv hM now x hI h0 h1 h2 hok hxa hxn hn
  cT := by
    rintro w G s tt nn now ⟨F, nx, lv, h, hG⟩ hI h0 h1 h2 hn
    refine (gtake_any now hM hb w h hI h0 h1 h2 hn).mono ?_
    rintro e w' ⟨u, rfl, hu, hl, hk⟩
    obtain ⟨G', g1, g2, g3⟩ := hl.at (cont := cont) hG
    exact ⟨u, G', rfl, hu, g1, g2, fun k hk' => (hk k hk').imp (hG k).2 id, g3⟩
  iT := by
    intro (s : SgS M.σ) tt nn now hI h0 h1 h2 hn
    exact takeG_inv hM hb now hI h0 h1 h2 hn
  cW := by
    rintro w G s tt nn now ⟨F, nx, lv, h, hG⟩ hI h0 h1 h2 hn
    refine (gwhen_any now hM hb w h hI h0 h1 h2 hn).mono ?_
    rintro e w' ⟨rfl, hl⟩
    obtain ⟨G', g1, g2, g3⟩ := hl.at (cont := cont) hG
    exact ⟨G', rfl, g1, g2, g3⟩
  iW := by
    intro (s : SgS M.σ) tt nn now hI h0 h1 h2 hn
    exact whenG_inv hM hb now hI h0 h1 h2 hn
  cL := by
    rintro w G s tt nn ⟨F, nx, lv, h, hG⟩ hI hn
    exact glen_any hM w h hI hn
  cB := by
    rintro w G s tt nn ⟨F, nx, lv, h, hG⟩ hI hn
    exact gbytes_any hM w h hI hn
theorem shaperGM_late {M : QM} {cont : M.σ → List (Int × Int)} {kk : Nat} (hM : M.Inn cont kk) (B : Nat) (n t R : Int) : (ShaperGM M cont B n t R).Late False (conG cont) where
  put := by
    intro (s : SgS M.σ) tt nn now x hI h0 h1 h2 hok hxa hxn hn
    exact putG_con hM R now x hI.q h0 h1 h2 hok hxa hxn hn
  take := by
    intro (s : SgS M.σ) tt nn now hI h0 h1 h2 hn
    exact takeG_con hM n t R now hI.q h0 h1 h2 hn
  when := by
    intro (s : SgS M.σ) tt nn now hI h0 h1 h2 hn
    exact whenG_con hM n now hI h0 h1 h2 hn
  len := by
    intro (s : SgS M.σ) tt nn hI
    exact lenG_le hM hI
  bytes := by
    intro (s : SgS M.σ) tt nn hI
    exact bytesG_le hM hI
  full := fun f => f.elim
theorem lookG_few {M : QM} {cont : M.σ → List (Int × Int)} {kk : Nat} (hM : M.Inn cont kk) {t R tt : Int} {nn : Nat} {s : SgS M.σ} (now : Int) (h : SgI M cont t R tt nn s) (hn : nn ≤ 1000) : (lookG s now).lost.length ≤ 5000 * (kk + 1) := by
  have h1 := h.few_lost
  have h2 := hM.tame.few now h.q hn
  unfold lookG
  split
  · omega
  · show (s.lost ++ (M.take s.q now).2.1).length ≤ _
    rw [List.length_append]
    omega
theorem shaperGM_tame {M : QM} {cont : M.σ → List (Int × Int)} {kk : Nat} (hM : M.Inn cont kk) (B : Nat) (n t R : Int) : (ShaperGM M cont B n t R).Tame (kk + 1) where
  mono := by
    intro tt tt' nn nn' (s : SgS M.σ) h h1 h2
    exact ⟨hM.tame.mono h.q h1 h2, h.l0, h.l1, h.t0, Int.le_trans h.t1 h1, h.nd, fun x hx => by have := h.rng x hx; omega⟩
  len := by
    intro tt nn (s : SgS M.σ) (h : SgI M cont t R tt nn s) hn
    have h1 := hM.tame.len h.q hn
    show (0 ≤ lenG s ∧ lenG s ≤ 100000 * ((kk + 1 : Nat) : Int)) ∧ 0 ≤ bytesG s ∧ bytesG s ≤ 1000000000 * ((kk + 1 : Nat) : Int)
    unfold lenG bytesG
    split
    · omega
    · rename_i x hx
      have h2 := h.held hx
      omega
  few := by
    intro tt nn (s : SgS M.σ) now (h : SgI M cont t R tt nn s) hn
    have h1 := lookG_few hM now h hn
    show (takeG n t R s now).2.1.length ≤ _
    unfold takeG
    split
    · exact h1
    · split <;> exact h1
end Go.Proofs.YtfakjedolecdcaaGreatDoor
namespace Go.Proofs.YtfakjedolecdcaaGreatDoor
open Go.RowKit Go.Extern.Stop Go.Stop Go.Extern

theorem snew_no (n t R : Int) (ty : TypeId) (rv : Value) (w : World) (h : ¬ okB n t R) :
    Calls Tryz.prog 52 #[.agg #[.int .i64 n, .int .i64 t, .int .i64 R], .iface ty rv] w fun e w' => e = .returned (.tuple #[.pointer none, .iface 57 (.int .i64 2)]) ∧ Below w.heap.size w w' := by
  have H : Hid (¬ okB n t R) := h
  clear h
  go_enter Tryz.func52, Tryz.ntmps52
  go_wp2_with (go_at_call 69; refine (new_no _ _ _ _ H.out).mono ?_; rintro e w1 ⟨rfl, hb1⟩)
  go_ret2
  exact ⟨rfl, ((Below.refl _ _).alloc (Nat.le_refl _) _).trans (hb1.mono (by simp))⟩
theorem snew_yes (n t R : Int) (ty : TypeId) (rv : Value) (w : World) (h : okB n t R) :
    Calls Tryz.prog 52 #[.agg #[.int .i64 n, .int .i64 t, .int .i64 R], .iface ty rv] w fun e w' => ∃ B, e = .returned (.tuple #[.pointer (some ⟨B, 0, none⟩), .nilIface]) ∧ w.heap.size < B ∧ StG w' B 1 [.iface ty rv] (shPost hd0 false) 171 n t R (R * t) 0 ∧ Below w.heap.size w w' := by
  have H : Hid (okB n t R) := h
  clear h
  go_enter Tryz.func52, Tryz.ntmps52
  go_wp2_with fail
  refine (new_yes _ _ _ _ H.out).mono ?_
  rintro e w1 ⟨s, rfl, hs, hst, hb1⟩
  have hB : Below w.heap.size w w1 := ((Below.refl _ _).alloc (Nat.le_refl _) _).trans (hb1.mono (by simp))
  have hlt := hst.lt
  obtain ⟨c0, c1, c2, c3, c4, _, _⟩ := hst.cells
  clear hst
  go_wp2
  go_ret2
  exact ⟨_, rfl, by simp at hs; omega, ⟨rfl, new_block _ _⟩, hB.alloc hB.size _⟩

end Go.Proofs.YtfakjedolecdcaaGreatDoor
namespace Go.Proofs.YtfakjedolecdcaaGreatDoor
open Go.RowKit Go.Extern.Stop Go.Stop Go.Extern

theorem LAt.cell {w : World} {b : Nat} {T : TypeId} {rest : List Value} {v : Value} {L : List Hd} (h : LAt w b T rest v L) {i : Nat} {u : Value} (hi : (v :: .int .i64 (sumL L) :: rest)[i]? = some u) : w.cell? ⟨b, i, none⟩ = some u ∧ w.frozen? ⟨b, i, none⟩ = false := by
  have := h.blk
  constructor
  · simp only [World.cell?, this]; simpa using hi
  · simp [World.frozen?, this]
/-- A cell behind the list is written. -/
theorem LAt.rest {w : World} {b : Nat} {T : TypeId} {rest rest' : List Value} {v : Value} {L : List Hd} (h : LAt w b T rest v L) (i : Nat) (u : Value) (hr : rest' = rest.set i u) : LAt (w.setCell ⟨b, i + 2, none⟩ u) b T rest' v L := by
  subst hr
  refine ⟨?_, h.row.setCell (p := ⟨b, i + 2, none⟩) h.ne _, h.ne⟩
  rw [heap_setCell_here h.blk u]
  simp
theorem LAt.six {w : World} {b : Nat} {T : TypeId} {rest : List Value} {v : Value} {L : List Hd} (h : LAt w b T rest v L) {r : Nat} (hr : r ≠ b) (hv : ∀ k, v.ownBlock = some k → k ≠ r) (a0 a1 a2 a3 a4 a5 : Value) :
    LAt ((((((w.setCell ⟨r, 0, none⟩ a0).setCell ⟨r, 1, none⟩ a1).setCell ⟨r, 2, none⟩ a2).setCell ⟨r, 3, none⟩ a3).setCell ⟨r, 4, none⟩ a4).setCell ⟨r, 5, none⟩ a5) b T rest v L := by
  refine h.ot (S := (· = r)) ?_ (fun e => hr e.symm) hv
  repeat' (first | with_reducible exact Ot.refl _ _ | with_reducible refine Ot.setCell ?_ (by simp) _)
theorem heap_other {w : World} {b i r : Nat} {u : Value} {o : Option Obj} (hr : r ≠ b) (h : w.heap[r]? = o) : (w.setCell ⟨b, i, none⟩ u).heap[r]? = o := by
  rw [Below.heap_setCell _ _ _ _ hr]
  exact h
theorem ret_held2 {fn : Func} {p u u2 : Tmp} (h : fn.results = #[.cell p 76, .tmp u, .tmp u2]) {tmps : Array Value} {w : World} {r : Nat} {x : Hd} {t : TypeId} {fr : Nat × Nat} {v1 v2 : Value} (hp : tmps.getD p undef = .pointer (some ⟨r, 0, none⟩)) (hx : w.heap[r]? = some (.cells #[.int .i64 x.a, .int .i64 x.l, .int .i64 x.f, .int .i64 x.b, .int .i64 x.m, .int .i64 x.n] t fr)) (h1 : tmps.getD u undef = v1) (h2 : tmps.getD u2 undef = v2) :
    (results fn tmps).run Tryz.prog w = .ok (.tuple #[x.val, v1, v2]) w := by
  rw [results_cell_tmp2 h, hp, h1, h2]
  simp [asAddr, Result.andThen, load_held hx]
theorem heap_drew {w : World} {q r : Nat} {o : Option Obj} (h : w.heap[r]? = o) : (w.drewN q).heap[r]? = o := h
theorem heap_six {w : World} {r j : Nat} {o : Option Obj} {a0 a1 a2 a3 a4 a5 : Value} (hne : j ≠ r) (h : w.heap[j]? = o) : ((((((w.setCell ⟨r, 0, none⟩ a0).setCell ⟨r, 1, none⟩ a1).setCell ⟨r, 2, none⟩ a2).setCell ⟨r, 3, none⟩ a3).setCell ⟨r, 4, none⟩ a4).setCell ⟨r, 5, none⟩ a5).heap[j]? = o :=
  heap_other hne (heap_other hne (heap_other hne (heap_other hne (heap_other hne (heap_other hne h)))))
end Go.Proofs.YtfakjedolecdcaaGreatDoor
namespace Go.Proofs.YtfakjedolecdcaaGreatDoor
open Go.RowKit Go.Extern.Stop Go.Stop Go.Extern

/-- A setup. -/
structure RSet where
  lo : Int
  hi : Int
  often : Int
  sl : Int
  mrk : Bool
structure RSet.Ok (q : RSet) : Prop where
  lo0 : 0 ≤ q.lo
  lohi : q.lo < q.hi
  hi1 : q.hi ≤ 1000000
  of0 : 1 ≤ q.often
  of1 : q.often ≤ 1000
  sl0 : 0 ≤ q.sl
  sl1 : q.sl ≤ 10
/-- What a Red keeps. -/
structure RdS where
  L : List Hd
  tape : List Int
  sum : Int
  since : Int
def rmore (q : RSet) (tv : Value) (s : RdS) : List Value := [.int .i64 q.lo, .int .i64 q.hi, .int .i64 q.often, .int .i64 q.sl, .bool q.mrk, tv, .int .i64 s.sum, .int .i64 s.since]
/-- A Red in block b. -/
def DRed (w : World) (b : Nat) (P R : Int) (q : RSet) (v tv : Value) (s : RdS) : Prop := LAt w b 152 (frest P R false (rmore q tv s)) v s.L
theorem DRed.cells {w : World} {b : Nat} {P R : Int} {q : RSet} {v tv : Value} {s : RdS} (h : DRed w b P R q v tv s) : (w.cell? ⟨b, 5, none⟩ = some (.int .i64 q.lo) ∧ w.cell? ⟨b, 6, none⟩ = some (.int .i64 q.hi) ∧ w.cell? ⟨b, 7, none⟩ = some (.int .i64 q.often) ∧ w.cell? ⟨b, 8, none⟩ = some (.int .i64 q.sl) ∧ w.cell? ⟨b, 9, none⟩ = some (.bool q.mrk) ∧ w.cell? ⟨b, 10, none⟩ = some tv ∧ w.cell? ⟨b, 11, none⟩ = some (.int .i64 s.sum) ∧ w.cell? ⟨b, 12, none⟩ = some (.int .i64 s.since)) ∧
    w.frozen? ⟨b, 10, none⟩ = false ∧ w.frozen? ⟨b, 11, none⟩ = false ∧ w.frozen? ⟨b, 12, none⟩ = false :=
  ⟨⟨(LAt.cell h rfl).1, (LAt.cell h rfl).1, (LAt.cell h rfl).1, (LAt.cell h rfl).1, (LAt.cell h rfl).1, (LAt.cell h rfl).1, (LAt.cell h rfl).1, (LAt.cell h rfl).1⟩, (LAt.cell h (i := 10) rfl).2, (LAt.cell h (i := 11) rfl).2, (LAt.cell h (i := 12) rfl).2⟩
def meanR (q : RSet) (sum : Int) : Int := sum / 2 ^ q.sl.toNat
theorem meanR_bd (q : RSet) {sum : Int} (h : 0 ≤ sum) : 0 ≤ meanR q sum ∧ meanR q sum ≤ sum := by
  unfold meanR
  have : (0 : Int) ≤ 2 ^ q.sl.toNat := Int.pow_nonneg (by decide)
  exact ⟨Int.ediv_nonneg h this, Int.ediv_le_self _ h⟩
set_option maxHeartbeats 1000000 in
theorem mean_any {b : Nat} {P R : Int} {q : RSet} {v tv : Value} {s : RdS} (w : World) (h : DRed w b P R q v tv s) (hq : q.Ok) :
    Calls Tryz.prog 150 #[.pointer (some ⟨b, 0, none⟩)] w fun e w' => e = .returned (.int .i64 (meanR q s.sum)) ∧ ∃ n, w' = w.drewN n := by
  have hb := LAt.lt h
  obtain ⟨⟨c5, c6, c7, c8, c9, c10, c11, c12⟩, f10, f11, f12⟩ := h.cells
  clear h
  have hs0 := hq.sl0
  have hs1 := hq.sl1
  go_enter Tryz.func150, Tryz.ntmps150
  go_wp2
  go_quiet (fail)
  go_wp2
  go_ret
  exact ⟨rfl, _, rfl⟩
/-- A Red, and its tape, which nobody else writes. -/
structure RedP (w : World) (b : Nat) (P R : Int) (q : RSet) (v tv : Value) (s : RdS) : Prop where
  pos : DRed w b P R q v tv s
  tape : Ins w tv s.tape
  tb : tv.ownBlock ≠ some b
  tvv : ∀ k, tv.ownBlock = some k → v.ownBlock ≠ some k
theorem RedP.kept {w w' : World} {b : Nat} {P R : Int} {q : RSet} {v tv : Value} {s : RdS} (h : RedP w b P R q v tv s) (hb : w'.heap[b]? = w.heap[b]?) (hv : ∀ k, v.ownBlock = some k → w'.heap[k]? = w.heap[k]?) (ht : ∀ k, tv.ownBlock = some k → w'.heap[k]? = w.heap[k]?) : RedP w' b P R q v tv s :=
  ⟨LAt.kept h.pos hb hv, Seg.kept h.tape ht, h.tb, h.tvv⟩
theorem RedP.drewN {w : World} {b : Nat} {P R : Int} {q : RSet} {v tv : Value} {s : RdS} (h : RedP w b P R q v tv s) (n : Nat) : RedP (w.drewN n) b P R q v tv s := h.kept rfl (fun _ _ => rfl) (fun _ _ => rfl)
def drawV : List Int → Int
  | [] => 0
  | a :: _ => (a % 18446744073709551616) % 1000
theorem drawV_bd (t : List Int) : 0 ≤ drawV t ∧ drawV t ≤ 999 := by
  cases t with
  | nil => exact ⟨Int.le_refl _, by decide⟩
  | cons a t => simp only [drawV]; omega
set_option maxHeartbeats 1000000 in
theorem rddraw_any {b : Nat} {P R : Int} {q : RSet} {v tv : Value} {s : RdS} (w : World) (h : RedP w b P R q v tv s) :
    Calls Tryz.prog 153 #[.pointer (some ⟨b, 0, none⟩)] w fun e w' => e = .returned (.int .i64 (drawV s.tape)) ∧ ∃ tv', RedP w' b P R q v tv' { s with tape := s.tape.tail } ∧ tv'.ownBlock = tv.ownBlock ∧ Ot (· = b) w w' := by
  have H : Hid (RedP w b P R q v tv s) := h
  have hb := LAt.lt h.pos
  obtain ⟨⟨c5, c6, c7, c8, c9, c10, c11, c12⟩, f10, f11, f12⟩ := h.pos.cells
  cases ht : s.tape with
  | nil =>
    obtain ⟨x, cap, rfl⟩ : ∃ x cap, tv = .slice x 0 cap := by
      obtain ⟨x, cap, e, _⟩ := Seg.lies h.tape
      rw [ht] at e
      exact ⟨x, cap, e⟩
    clear h
    go_enter Tryz.func153, Tryz.ntmps153
    go_wp2
    go_ret
    refine ⟨rfl, _, ?_, rfl, Ot.refl _ _⟩
    have e : ({ s with tape := [].tail } : RdS) = s := by rw [List.tail_nil, ← ht]
    rw [e]
    exact H.out
  | cons a t =>
    have h1 := h.tape
    unfold Ins at h1
    rw [ht] at h1
    obtain ⟨b1, off, cap, rfl, hn, hx, hlt, hc⟩ := h1.some (by simp)
    have k0 : w.cell? ⟨b1, off, none⟩ = some (.int .i64 a) := hc 0 _ rfl
    have hd : ∀ off' cap', (off' = off + 1 ∧ cap' = cap - 1 ∨ cap = 1 ∧ off' = off ∧ cap' = 0) → Ins w (.slice (some ⟨b1, off', none⟩) t.length cap') t := by
      intro off' cap' ho
      have := Seg.drop (w := w) (e := 3) (k := 1) (n := t.length + 1) (m := 1) h1 (by omega) off' (by omega)
      unfold Ins
      have hc : cap' = cap - 1 := by omega
      rw [hc]
      simpa using this
    have HD : Hid (∀ off' cap', (off' = off + 1 ∧ cap' = cap - 1 ∨ cap = 1 ∧ off' = off ∧ cap' = 0) → Ins w (.slice (some ⟨b1, off', none⟩) t.length cap') t) := hd
    have he : wrap64 ((IntKind.u64.wrap a).tmod 1000) = drawV (a :: t) := by
      simp only [drawV]
      rw [IntKind.wrap_u64, Int.tmod_eq_emod_of_nonneg (by omega)]
      unfold wrap64; omega
    have HE : Hid (wrap64 ((IntKind.u64.wrap a).tmod 1000) = drawV (a :: t)) := he
    have hnl : t.length + 1 ≤ 9223372036854775807 := by unfold maxLen at hx; simp only [List.length_cons] at hn hx; omega
    have hb1 : b1 ≠ b := fun e => h.tb (by rw [← e]; rfl)
    have htv : v.ownBlock ≠ some b1 := h.tvv b1 rfl
    simp only [List.length_cons] at c10 hn
    clear h h1 hc hd he
    have HF : Hid (∀ off' cap', (off' = off + 1 ∧ cap' = cap - 1 ∨ cap = 1 ∧ off' = off ∧ cap' = 0) → RedP (w.setCell ⟨b, 10, none⟩ (.slice (some ⟨b1, off', none⟩) t.length cap')) b P R q v (.slice (some ⟨b1, off', none⟩) t.length cap') { s with tape := (a :: t).tail }) := by
      intro off' cap' ho
      refine ⟨LAt.rest H.out.pos 8 (.slice (some ⟨b1, off', none⟩) t.length cap') rfl, Seg.setCell (p := ⟨b, 10, none⟩) (HD.out off' cap' ho) (by simpa [Value.ownBlock] using hb1) _, by simpa [Value.ownBlock] using hb1, fun k hk => ?_⟩
      simp only [Value.ownBlock, Option.some.injEq] at hk
      exact hk ▸ htv
    by_cases hcap : cap = 1
    · go_enter Tryz.func153, Tryz.ntmps153
      go_wp2
      go_ret
      exact ⟨by rw [← HE.out]; rfl, _, HF.out off 0 (Or.inr ⟨hcap, rfl, rfl⟩), rfl, Ot.setCell (S := (· = b)) (Ot.refl _ _) (Or.inl rfl) _⟩
    · go_enter Tryz.func153, Tryz.ntmps153
      go_wp2
      go_ret
      exact ⟨by rw [← HE.out]; rfl, _, HF.out (off + 1) (cap - 1) (Or.inl ⟨rfl, rfl⟩), rfl, Ot.setCell (S := (· = b)) (Ot.refl _ _) (Or.inl rfl) _⟩
end Go.Proofs.YtfakjedolecdcaaGreatDoor
