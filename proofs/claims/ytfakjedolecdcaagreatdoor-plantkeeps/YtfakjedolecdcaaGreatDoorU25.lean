/-
  A Shaper over whatever queue is a queue as plain.Play asks it: its model, which loses and makes no packet, told late. Conditions: a bucket that may be; the queue's methods do what a model of it tells (a premise).
  shaper.New. Conditions: none beyond a bucket that may be.
  early.New: an empty Red in memory of its own, where room and setup may be and the tape is not too long; else the error. Conditions: the tape lies in memory.
  early.New: the error, where room or setup may not be, or the tape is too long. No condition.
  early: a Red is a queue as plain.Play and millracelaw.played ask it: its model. Conditions: room and setup within their bounds.
  queue.NewBands: what it says of no queue, of more than eight, and where the last is nil. Conditions: the queues ahead of the last lie in memory.
  The root of a number, rounded down, and Newton's steps to it; controlled delay as a function of what waits. Conditions: none.
-/
import Derived.Test.YtfakjedolecdcaaGreatDoorU24
import Derived.Test.YtfakjedolecdcaaGreatDoorU22
import Derived.Test.YtfakjedolecdcaaGreatDoorU9
import Derived.Test.YtfakjedolecdcaaGreatDoorU10
import Derived.Test.YtfakjedolecdcaaGreatDoorU17
import Derived.Test.YtfakjedolecdcaaGreatDoorU7
namespace Go.Proofs.YtfakjedolecdcaaGreatDoor
open Go.RowKit Go.Extern.Stop Go.Stop Go.Extern

/-- A shaper in block B over a queue. -/
def ShaperGM (M : QM) (cont : M.σ → List (Int × Int)) (B : Nat) (n t R : Int) : QM where
  σ := SgS M.σ
  ty := 131
  rv := .pointer (some ⟨B, 0, none⟩)
  fP := 187
  fT := 188
  fW := 189
  fL := 186
  fB := 185
  rP := .pointer (some ⟨B, 0, none⟩)
  rT := .pointer (some ⟨B, 0, none⟩)
  rW := .pointer (some ⟨B, 0, none⟩)
  rL := .pointer (some ⟨B, 0, none⟩)
  rB := .pointer (some ⟨B, 0, none⟩)
  At := fun w G s => ∃ F nx lv, SgAt M B n t R w F s nx lv ∧ ∀ k, G k ↔ sgF B F lv k
  put := fun s now x => putG R s now x
  take := fun s now => takeG n t R s now
  when := fun s now => whenG n t R s now
  len := fun s => lenG s
  bytes := fun s => bytesG s
  inv := fun tt nn s => SgI M cont t R tt nn s
theorem LookG.at {M : QM} {cont : M.σ → List (Int × Int)} {B : Nat} {n t R : Int} {F G : Nat → Prop} {lv : Value} {w w' : World} {s : SgS M.σ} (h : LookG M B n t R (sgF B F lv) w s w') (hG : ∀ k, G k ↔ sgF B F lv k) : ∃ G', (ShaperGM M cont B n t R).At w' G' s ∧ (∀ k, G' k → G k ∨ w.heap.size ≤ k) ∧ Ot G w w' := by
  obtain ⟨F', nx, lv', h1, h2⟩ := h.ex
  refine ⟨sgF B F' lv', ⟨F', nx, lv', h1, fun _ => Iff.rfl⟩, fun k hk => ?_, h.ot.mono (fun k _ hk => (hG k).2 hk)⟩
  rcases h2 k hk with h | h
  · exact Or.inl ((hG k).2 h)
  · exact Or.inr h
theorem shaperGM_fine {M : QM} {cont : M.σ → List (Int × Int)} {kk : Nat} (hM : M.Inn cont kk) (B : Nat) {n t R : Int} (hb : okB n t R) : (ShaperGM M cont B n t R).Fine where
  kept := by
    rintro w w' G s ⟨F, nx, lv, h, hG⟩ hk
    exact ⟨F, nx, lv, h.kept hM.fine (fun k hf => hk k ((hG k).2 hf)), hG⟩
  low := by
    rintro w G s ⟨F, nx, lv, h, hG⟩ k hk
    exact h.low hM.fine k ((hG k).1 hk)
  mP := mShaperP _
  mT := mShaperT _
  mW := mShaperW _
  mL := mShaperL _
  mB := mShaperB _
  eP := eShaperP
  eT := eShaperT
  eW := eShaperW
  eL := eShaperL
  eB := eShaperB
  cP := by
    rintro w G s tt nn now x ⟨F, nx, lv, h, hG⟩ hI h0 h1 h2 hok hxa hxn hn
    refine (gput_any now x hM.fine w h hI.q h0 h1 h2 hok hxa hxn hn).mono ?_
    rintro e w' ⟨u, rfl, hu, hl, hk⟩
    obtain ⟨G', g1, g2, g3⟩ := hl.at (cont := cont) hG
    exact ⟨u, G', rfl, hu, g1, g2, fun k hk' => (hk k hk').imp (hG k).2 id, g3⟩
  iP := by
    intro (s : SgS M.σ) tt nn now x hI h0 h1 h2 hok hxa hxn hn
    exact putG_inv hM now x hI h0 h1 h2 hok hxa hxn hn
  cT := by
    rintro w G s tt nn now ⟨F, nx, lv, h, hG⟩ hI h0 h1 h2 hn
    refine (gtake_any now hM hb w h hI h0 h1 h2 hn).mono ?_
    rintro e w' ⟨u, rfl, hu, hl, hk⟩
    obtain ⟨G', g1, g2, g3⟩ := hl.at (cont := cont) hG
    exact ⟨u, G', rfl, hu, g1, g2, fun k hk' => (hk k hk').imp (hG k).2 id, g3⟩
  iT := by
    intro (s : SgS M.σ) tt nn now hI h0 h1 h2 hn
    exact takeG_inv hM hb now hI h0 h1 h2 hn
  cW := by
    rintro w G s tt nn now ⟨F, nx, lv, h, hG⟩ hI h0 h1 h2 hn
    refine (gwhen_any now hM hb w h hI h0 h1 h2 hn).mono ?_
    rintro e w' ⟨rfl, hl⟩
    obtain ⟨G', g1, g2, g3⟩ := hl.at (cont := cont) hG
    exact ⟨G', rfl, g1, g2, g3⟩
  iW := by
    intro (s : SgS M.σ) tt nn now hI h0 h1 h2 hn
    exact whenG_inv hM hb now hI h0 h1 h2 hn
  cL := by
    rintro w G s tt nn ⟨F, nx, lv, h, hG⟩ hI hn
    exact glen_any hM w h hI hn
  cB := by
    rintro w G s tt nn ⟨F, nx, lv, h, hG⟩ hI hn
    exact gbytes_any hM w h hI hn
theorem shaperGM_late {M : QM} {cont : M.σ → List (Int × Int)} {kk : Nat} (hM : M.Inn cont kk) (B : Nat) (n t R : Int) : (ShaperGM M cont B n t R).Late False (conG cont) where
  put := by
    intro (s : SgS M.σ) tt nn now x hI h0 h1 h2 hok hxa hxn hn
    exact putG_con hM R now x hI.q h0 h1 h2 hok hxa hxn hn
  take := by
    intro (s : SgS M.σ) tt nn now hI h0 h1 h2 hn
    exact takeG_con hM n t R now hI.q h0 h1 h2 hn
  when := by
    intro (s : SgS M.σ) tt nn now hI h0 h1 h2 hn
    exact whenG_con hM n now hI h0 h1 h2 hn
  len := by
    intro (s : SgS M.σ) tt nn hI
    exact lenG_le hM hI
  bytes := by
    intro (s : SgS M.σ) tt nn hI
    exact bytesG_le hM hI
  full := fun f => f.elim
theorem lookG_few {M : QM} {cont : M.σ → List (Int × Int)} {kk : Nat} (hM : M.Inn cont kk) {t R tt : Int} {nn : Nat} {s : SgS M.σ} (now : Int) (h : SgI M cont t R tt nn s) (hn : nn ≤ 1000) : (lookG s now).lost.length ≤ 5000 * (kk + 1) := by
  have h1 := h.few_lost
  have h2 := hM.tame.few now h.q hn
  unfold lookG
  split
  · omega
  · show (s.lost ++ (M.take s.q now).2.1).length ≤ _
    rw [List.length_append]
    omega
theorem shaperGM_tame {M : QM} {cont : M.σ → List (Int × Int)} {kk : Nat} (hM : M.Inn cont kk) (B : Nat) (n t R : Int) : (ShaperGM M cont B n t R).Tame (kk + 1) where
  mono := by
    intro tt tt' nn nn' (s : SgS M.σ) h h1 h2
    exact ⟨hM.tame.mono h.q h1 h2, h.l0, h.l1, h.t0, Int.le_trans h.t1 h1, h.nd, fun x hx => by have := h.rng x hx; omega⟩
  len := by
    intro tt nn (s : SgS M.σ) (h : SgI M cont t R tt nn s) hn
    have h1 := hM.tame.len h.q hn
    show (0 ≤ lenG s ∧ lenG s ≤ 100000 * ((kk + 1 : Nat) : Int)) ∧ 0 ≤ bytesG s ∧ bytesG s ≤ 1000000000 * ((kk + 1 : Nat) : Int)
    unfold lenG bytesG
    split
    · omega
    · rename_i x hx
      have h2 := h.held hx
      omega
  few := by
    intro tt nn (s : SgS M.σ) now (h : SgI M cont t R tt nn s) hn
    have h1 := lookG_few hM now h hn
    show (takeG n t R s now).2.1.length ≤ _
    unfold takeG
    split
    · exact h1
    · split <;> exact h1
end Go.Proofs.YtfakjedolecdcaaGreatDoor
namespace Go.Proofs.YtfakjedolecdcaaGreatDoor
open Go.RowKit Go.Extern.Stop Go.Stop Go.Extern

theorem snew_no (n t R : Int) (ty : TypeId) (rv : Value) (w : World) (h : ¬ okB n t R) :
    Calls Tryz.prog 52 #[.agg #[.int .i64 n, .int .i64 t, .int .i64 R], .iface ty rv] w fun e w' => e = .returned (.tuple #[.pointer none, .iface 57 (.int .i64 2)]) ∧ Below w.heap.size w w' := by
  have H : Hid (¬ okB n t R) := h
  clear h
  go_enter Tryz.func52, Tryz.ntmps52
  go_wp2_with (go_at_call 69; refine (new_no _ _ _ _ H.out).mono ?_; rintro e w1 ⟨rfl, hb1⟩)
  go_ret2
  exact ⟨rfl, ((Below.refl _ _).alloc (Nat.le_refl _) _).trans (hb1.mono (by simp))⟩
theorem snew_yes (n t R : Int) (ty : TypeId) (rv : Value) (w : World) (h : okB n t R) :
    Calls Tryz.prog 52 #[.agg #[.int .i64 n, .int .i64 t, .int .i64 R], .iface ty rv] w fun e w' => ∃ B, e = .returned (.tuple #[.pointer (some ⟨B, 0, none⟩), .nilIface]) ∧ w.heap.size < B ∧ StG w' B 1 [.iface ty rv] (shPost hd0 false) 171 n t R (R * t) 0 ∧ Below w.heap.size w w' := by
  have H : Hid (okB n t R) := h
  clear h
  go_enter Tryz.func52, Tryz.ntmps52
  go_wp2_with fail
  refine (new_yes _ _ _ _ H.out).mono ?_
  rintro e w1 ⟨s, rfl, hs, hst, hb1⟩
  have hB : Below w.heap.size w w1 := ((Below.refl _ _).alloc (Nat.le_refl _) _).trans (hb1.mono (by simp))
  have hlt := hst.lt
  obtain ⟨c0, c1, c2, c3, c4, _, _⟩ := hst.cells
  clear hst
  go_wp2
  go_ret2
  exact ⟨_, rfl, by simp at hs; omega, ⟨rfl, new_block _ _⟩, hB.alloc hB.size _⟩

end Go.Proofs.YtfakjedolecdcaaGreatDoor
namespace Go.Proofs.YtfakjedolecdcaaGreatDoor
open Go.RowKit Go.Extern.Stop Go.Stop Go.Extern

theorem fivec {w : World} {b : Nat} {t : TypeId} {a0 a1 a2 a3 a4 : Value} (h : w.heap[b]? = some (.cells #[a0, a1, a2, a3, a4] t (0, 0))) : w.cell? ⟨b, 0, none⟩ = some a0 ∧ w.cell? ⟨b, 1, none⟩ = some a1 ∧ w.cell? ⟨b, 2, none⟩ = some a2 ∧ w.cell? ⟨b, 3, none⟩ = some a3 ∧ w.cell? ⟨b, 4, none⟩ = some a4 := by
  refine ⟨?_, ?_, ?_, ?_, ?_⟩
  all_goals simp [World.cell?, h]
set_option maxRecDepth 20000 in
set_option maxHeartbeats 2000000 in
theorem newRed_yes (q : RSet) (P R : Int) {px : Option Addr} {m pcap : Nat} {f : Nat → Int} (w : World) (h : IRow w px m f) (hn : px = none → m = 0 ∧ pcap = 0) (hm : m ≤ 1000) (hq : q.Ok) (hP : 0 ≤ P) (hP1 : P ≤ 1000000) (hR : 0 ≤ R) (hR1 : R ≤ 1000000) :
    Calls Tryz.prog 47 #[q.val, .int .i64 P, .int .i64 R, .slice px m pcap] w fun e w' => ∃ b tv, e = .returned (.tuple #[.pointer (some ⟨b, 0, none⟩), .nilIface]) ∧ RedP w' b P R q (.slice none 0 0) tv ⟨[], tapeL m f, 0, 0⟩ ∧ w.heap.size ≤ b ∧ (∀ k, tv.ownBlock = some k → w.heap.size ≤ k) ∧ Below w.heap.size w w' := by
  have HI : Hid (IRow w px m f) := h
  have HNN : Hid (px = none → m = 0 ∧ pcap = 0) := hn
  clear h hn
  rw [RSet.val_eq]
  have HRT : Hid (∀ W : World, Calls Tryz.prog 64 #[.agg #[.int .i64 q.lo, .int .i64 q.hi, .int .i64 q.often, .int .i64 q.sl, .bool q.mrk]] W fun e w' => e = .returned (.bool true) ∧ Below W.heap.size W w') := fun W => right_yes q W hq
  go_enter Tryz.func47, Tryz.ntmps47
  go_wp2_with (first | (go_at_call 27; refine (newFifo_yes P R false _ hP hP1 hR hR1).mono ?_; rintro e w1 ⟨rfl, hl1, hw1⟩; subst hw1) | (go_at_call 64; fail))
  have HB1 : Hid (Below w.heap.size w ((w.alloc (.cells #[.int .i64 q.lo, .int .i64 q.hi, .int .i64 q.often, .int .i64 q.sl, .bool q.mrk] 115)).alloc (.cells #[.slice none 0 0, .int .i64 0, .int .i64 P, .int .i64 R, .bool false] 110))) := below_alloc_ (below_alloc_ (Below.refl _ _) _) _
  refine (HRT.out _).mono ?_
  rintro e w2 ⟨rfl, hb2⟩
  have hF2 : w2.heap[w.heap.size + 1]? = some (.cells #[.slice none 0 0, .int .i64 0, .int .i64 P, .int .i64 R, .bool false] 110 (0, 0)) := by rw [hb2.block _ (by simp)]; exact new_block_ (by simp)
  have hS2 : w2.heap[w.heap.size]? = some (.cells #[.int .i64 q.lo, .int .i64 q.hi, .int .i64 q.often, .int .i64 q.sl, .bool q.mrk] 115 (0, 0)) := by rw [hb2.block _ (by simp; omega)]; exact (Below.heap_alloc _ _ _ (by simp)).trans (new_block w _)
  obtain ⟨a0, a1, a2, a3, a4⟩ := fivec hF2
  obtain ⟨b0, b1, b2, b3, b4⟩ := fivec hS2
  have hl2 := lt_of_block hF2
  have HB2 : Hid (Below w.heap.size w w2) := HB1.out.trans (hb2.mono HB1.out.size)
  have HCL : Hid (∀ W : World, Below w2.heap.size w2 W → Calls Tryz.prog 65 #[.slice px m pcap] W fun e w' => ∃ tv, e = .returned tv ∧ Ins w' tv (tapeL m f) ∧ (∀ k, tv.ownBlock = some k → W.heap.size ≤ k) ∧ Below W.heap.size W w') := by
    intro W hW
    have hwW : Below w.heap.size w W := HB2.out.trans (hW.mono HB2.out.size)
    refine cloneI W ?_ HNN.out (by omega)
    rcases HI.out with h | ⟨b, off, h1, h2, h3⟩
    · exact Or.inl h
    · exact Or.inr ⟨b, off, h1, Nat.lt_of_lt_of_le h2 hwW.size, fun i hi => by rw [World.cell?_of_block (w := w) (a := ⟨b, off + i, none⟩) (hwW.block b h2)]; exact h3 i hi⟩
  have HFS : Hid (∀ W : World, Below w2.heap.size w2 W → (W.cell? ⟨w.heap.size + 1, 0, none⟩ = some (.slice none 0 0) ∧ W.cell? ⟨w.heap.size + 1, 1, none⟩ = some (.int .i64 0) ∧ W.cell? ⟨w.heap.size + 1, 2, none⟩ = some (.int .i64 P) ∧ W.cell? ⟨w.heap.size + 1, 3, none⟩ = some (.int .i64 R) ∧ W.cell? ⟨w.heap.size + 1, 4, none⟩ = some (.bool false)) ∧ W.cell? ⟨w.heap.size, 0, none⟩ = some (.int .i64 q.lo) ∧ W.cell? ⟨w.heap.size, 1, none⟩ = some (.int .i64 q.hi) ∧ W.cell? ⟨w.heap.size, 2, none⟩ = some (.int .i64 q.often) ∧ W.cell? ⟨w.heap.size, 3, none⟩ = some (.int .i64 q.sl) ∧ W.cell? ⟨w.heap.size, 4, none⟩ = some (.bool q.mrk)) := by
    intro W hW
    exact ⟨fivec ((hW.block _ hl2).trans hF2), fivec ((hW.block _ (by omega)).trans hS2)⟩
  have HF2 : Hid (w2.heap[w.heap.size + 1]? = some (.cells #[.slice none 0 0, .int .i64 0, .int .i64 P, .int .i64 R, .bool false] 110 (0, 0))) := hF2
  clear hb2 hF2 hS2 hl1
  go_wp2
  go_region_with (go_at_call 65; refine (HCL.out _ (by repeat' (first | with_reducible exact Below.refl _ _ | with_reducible refine Below.drew ?_))).mono ?_; rintro e w3 ⟨tv, rfl, ht3, hn3, hb3⟩; obtain ⟨tx, tcap, htv, _⟩ := Seg.lies ht3; subst htv; have hb23 : Below w2.heap.size w2 w3 := (Below.drew (Below.refl _ _)).trans hb3; obtain ⟨⟨c0, c1, c2, c3, c4⟩, d0, d1, d2, d3, d4⟩ := HFS.out w3 hb23)
  all_goals
    go_wp2
    go_ret2
    have hw3 : Below w.heap.size w w3 := HB2.out.trans (hb23.mono HB2.out.size)
    refine ⟨w3.heap.size, _, rfl, ⟨⟨new_block_ rfl, Hs.nil _, by simp [Value.ownBlock]⟩, Seg.below ht3 (below_alloc_ (Below.refl _ _) _), fun e => ?_, fun k _ => by simp [Value.ownBlock]⟩, hw3.size, fun k hk => ?_, below_alloc_ hw3 _⟩
    · have := Seg.lt ht3 e; omega
    · have := hn3 k hk
      have h2 := HB2.out.size
      simp at this
      omega
end Go.Proofs.YtfakjedolecdcaaGreatDoor
namespace Go.Proofs.YtfakjedolecdcaaGreatDoor
open Go.RowKit Go.Extern.Stop Go.Stop Go.Extern

theorem newRed_room (q : RSet) (P R : Int) {tv : Value} (w : World) (h : ¬ (0 ≤ P ∧ P ≤ 1000000 ∧ 0 ≤ R ∧ R ≤ 1000000)) :
    Calls Tryz.prog 47 #[q.val, .int .i64 P, .int .i64 R, tv] w fun e w' => e = .returned (.tuple #[.pointer none, .iface 57 (.int .i64 2)]) ∧ Below w.heap.size w w' := by
  rw [RSet.val_eq]
  go_enter Tryz.func47, Tryz.ntmps47
  go_wp2_with (go_at_call 27; refine (newFifo_no P R false _ h).mono ?_; rintro e w1 ⟨rfl, hw1⟩; subst hw1)
  go_ret2
  exact ⟨rfl, below_alloc_ (Below.refl _ _) _⟩
theorem newRed_setup (q : RSet) (P R : Int) {tv : Value} (w : World) (hq : ¬ q.Ok) (hP : 0 ≤ P) (hP1 : P ≤ 1000000) (hR : 0 ≤ R) (hR1 : R ≤ 1000000) :
    Calls Tryz.prog 47 #[q.val, .int .i64 P, .int .i64 R, tv] w fun e w' => e = .returned (.tuple #[.pointer none, .iface 57 (.int .i64 2)]) ∧ Below w.heap.size w w' := by
  have HRT : Hid (∀ W : World, Calls Tryz.prog 64 #[.agg #[.int .i64 q.lo, .int .i64 q.hi, .int .i64 q.often, .int .i64 q.sl, .bool q.mrk]] W fun e w' => e = .returned (.bool false) ∧ Below W.heap.size W w') := fun W => right_no q W hq
  rw [RSet.val_eq]
  go_enter Tryz.func47, Tryz.ntmps47
  go_wp2_with (first | (go_at_call 27; refine (newFifo_yes P R false _ hP hP1 hR hR1).mono ?_; rintro e w1 ⟨rfl, hl1, hw1⟩; subst hw1) | (go_at_call 64; fail))
  refine (HRT.out _).mono ?_
  rintro e w2 ⟨rfl, hb2⟩
  go_wp2
  go_ret2
  exact ⟨rfl, (below_alloc_ (below_alloc_ (Below.refl _ _) _) _).trans (hb2.mono (by simp; omega))⟩
theorem newRed_tape (q : RSet) (P R : Int) {px : Option Addr} {m pcap : Nat} (w : World) (hm : 1000 < m) (hm1 : m ≤ 9223372036854775807) (hq : q.Ok) (hP : 0 ≤ P) (hP1 : P ≤ 1000000) (hR : 0 ≤ R) (hR1 : R ≤ 1000000) :
    Calls Tryz.prog 47 #[q.val, .int .i64 P, .int .i64 R, .slice px m pcap] w fun e w' => e = .returned (.tuple #[.pointer none, .iface 57 (.int .i64 4)]) ∧ Below w.heap.size w w' := by
  have HRT : Hid (∀ W : World, Calls Tryz.prog 64 #[.agg #[.int .i64 q.lo, .int .i64 q.hi, .int .i64 q.often, .int .i64 q.sl, .bool q.mrk]] W fun e w' => e = .returned (.bool true) ∧ Below W.heap.size W w') := fun W => right_yes q W hq
  rw [RSet.val_eq]
  go_enter Tryz.func47, Tryz.ntmps47
  go_wp2_with (first | (go_at_call 27; refine (newFifo_yes P R false _ hP hP1 hR hR1).mono ?_; rintro e w1 ⟨rfl, hl1, hw1⟩; subst hw1) | (go_at_call 64; fail))
  refine (HRT.out _).mono ?_
  rintro e w2 ⟨rfl, hb2⟩
  go_wp2
  go_ret2
  exact ⟨rfl, (below_alloc_ (below_alloc_ (Below.refl _ _) _) _).trans (hb2.mono (by simp; omega))⟩
end Go.Proofs.YtfakjedolecdcaaGreatDoor
namespace Go.Proofs.YtfakjedolecdcaaGreatDoor
open Go.RowKit Go.Extern.Stop Go.Stop Go.Extern

theorem mRedP (a : Addr) (W : World) : (Go.method 395 116 (.pointer (some ⟨a.block, 0, none⟩)) "Put").run Tryz.prog W = .ok (149, .pointer (some ⟨a.block, 0, none⟩)) W := by kernel_rfl
theorem mRedT (a : Addr) (W : World) : (Go.method 395 116 (.pointer (some ⟨a.block, 0, none⟩)) "Take").run Tryz.prog W = .ok (141, .pointer (some ⟨a.block, 0, none⟩)) W := by kernel_rfl
theorem mRedW (a : Addr) (W : World) : (Go.method 395 116 (.pointer (some ⟨a.block, 0, none⟩)) "When").run Tryz.prog W = .ok (142, .pointer (some ⟨a.block, 0, none⟩)) W := by kernel_rfl
theorem mRedL (a : Addr) (W : World) : (Go.method 395 116 (.pointer (some ⟨a.block, 0, none⟩)) "Len").run Tryz.prog W = .ok (139, .pointer (some ⟨a.block, 0, none⟩)) W := by kernel_rfl
theorem mRedB (a : Addr) (W : World) : (Go.method 395 116 (.pointer (some ⟨a.block, 0, none⟩)) "Bytes").run Tryz.prog W = .ok (138, .pointer (some ⟨a.block, 0, none⟩)) W := by kernel_rfl
theorem eRedP (args : Array Value) (W : World) : (callFunc 149 args).run Tryz.prog W = .ok (.enter 149 args) W := enters_of Tryz.func149 (by kernel_rfl) rfl args W
/-- A Red in block b. -/
def RedM (b : Nat) (P R : Int) (q : RSet) : QM where
  σ := RdS
  ty := 116
  rv := .pointer (some ⟨b, 0, none⟩)
  fP := 149
  fT := 141
  fW := 142
  fL := 139
  fB := 138
  rP := .pointer (some ⟨b, 0, none⟩)
  rT := .pointer (some ⟨b, 0, none⟩)
  rW := .pointer (some ⟨b, 0, none⟩)
  rL := .pointer (some ⟨b, 0, none⟩)
  rB := .pointer (some ⟨b, 0, none⟩)
  At := fun w F s => ∃ v tv, RedP w b P R q v tv s ∧ ∀ k, F k ↔ k = b ∨ v.ownBlock = some k ∨ tv.ownBlock = some k
  put := fun s _ x => putR P R q s x
  take := fun s _ => ({ s with L := s.L.tail }, [], hdOr s.L, !s.L.isEmpty)
  when := fun s now => (s, now, !s.L.isEmpty)
  len := fun s => s.L.length
  bytes := fun s => sumL s.L
  inv := fun _ n s => s.L.length ≤ n ∧ (∀ x ∈ s.L, 0 ≤ x.l ∧ x.l ≤ 10000) ∧ (0 ≤ s.since ∧ s.since ≤ n) ∧ 0 ≤ s.sum ∧ s.sum ≤ 10000000 * n
theorem putR_L {P R : Int} {q : RSet} {s : RdS} {x : Hd} (h0 : 0 ≤ s.since) : (∀ y ∈ (putR P R q s x).1.L, y ∈ s.L ∨ y = x ∨ y = marked x) ∧ (putR P R q s x).1.L.length ≤ s.L.length + 1 ∧ (putR P R q s x).2.length ≤ 1 + s.L.length ∧ (putR P R q s x).1.sum = s.sum + (sumL s.L - meanR q s.sum) ∧ 0 ≤ (putR P R q s x).1.since ∧ (putR P R q s x).1.since ≤ s.since + 1 := by
  obtain ⟨e1, e2, e3, e4⟩ := hitR_L q (sumR q s) h0
  have e2' : (hitR q (sumR q s)).2.sum = s.sum + (sumL s.L - meanR q s.sum) := e2
  have e1' : (hitR q (sumR q s)).2.L = s.L := e1
  have e4' : (hitR q (sumR q s)).2.since ≤ s.since + 1 := e4
  unfold putR
  split
  · split
    · obtain ⟨h1, h2, h3⟩ := putF_mem (P := P) (R := R) (hd := false) (L := s.L) (x := marked x)
      refine ⟨fun y hy => ?_, h2, by show (putF P R false s.L (marked x)).1.length ≤ _; omega, e2', e3, e4'⟩
      rcases List.mem_append.1 (h1 y hy) with h | h
      · exact Or.inl h
      · simp at h; exact Or.inr (Or.inr h)
    · refine ⟨fun y hy => Or.inl ?_, ?_, by simp, e2', e3, e4'⟩
      · rw [e1'] at hy; exact hy
      · show (hitR q (sumR q s)).2.L.length ≤ _; rw [e1']; omega
  · obtain ⟨h1, h2, h3⟩ := putF_mem (P := P) (R := R) (hd := false) (L := s.L) (x := x)
    refine ⟨fun y hy => ?_, h2, by show (putF P R false s.L x).1.length ≤ _; omega, e2', e3, e4'⟩
    rcases List.mem_append.1 (h1 y hy) with h | h
    · exact Or.inl h
    · simp at h; exact Or.inr (Or.inl h)
theorem redM_fine (b : Nat) (P R : Int) (q : RSet) (hq : q.Ok) (hP : 0 ≤ P) (hR : 0 ≤ R) (hR1 : R ≤ 1000000) : (RedM b P R q).Fine where
  kept := by
    rintro w w' F s ⟨v, tv, h, hF⟩ hk
    exact ⟨v, tv, h.kept (hk b ((hF b).2 (Or.inl rfl))) (fun k hv => hk k ((hF k).2 (Or.inr (Or.inl hv)))) (fun k hv => hk k ((hF k).2 (Or.inr (Or.inr hv)))), hF⟩
  low := by
    rintro w F s ⟨v, tv, h, hF⟩ k hk
    rcases (hF k).1 hk with rfl | hv | hv
    · exact LAt.lt h.pos
    · exact h.pos.row.lt hv
    · exact Seg.lt h.tape hv
  mP := mRedP ⟨b, 0, none⟩
  mT := mRedT ⟨b, 0, none⟩
  mW := mRedW ⟨b, 0, none⟩
  mL := mRedL ⟨b, 0, none⟩
  mB := mRedB ⟨b, 0, none⟩
  eP := eRedP
  eT := eFifoT
  eW := eFifoW
  eL := eFifoL
  eB := eFifoB
  cP := by
    rintro w F (s : RdS) t n now x ⟨v, tv, h, hF⟩ hI ht0 ht1 ht2 hok hxa hxn hn
    obtain ⟨i1, i2, i3, i4, i5⟩ := hI
    have hxl := ok_len hok
    have hfit : Fit (s.L ++ [x]) := ⟨by simp; omega, fun y hy => by rcases List.mem_append.1 hy with h | h; exact i2 y h; simp at h; subst h; omega⟩
    refine (rput_any now x w h hq hfit hP hR hR1 i3.1 (by omega) i4 (by omega)).mono ?_
    rintro e w' ⟨u, v', tv', rfl, hu, hr, hk, hkt, hn', ho⟩
    refine ⟨u, fun k => k = b ∨ v'.ownBlock = some k ∨ tv'.ownBlock = some k, rfl, hu, ⟨v', tv', hr, fun k => Iff.rfl⟩, ?_, fun k hk => Or.inr (hn' k hk), ho.mono (fun k _ h => ?_)⟩
    · intro k hk'
      rcases hk' with rfl | h | h
      · exact Or.inl ((hF _).2 (Or.inl rfl))
      · rcases hk k h with h | h
        · exact Or.inl ((hF k).2 (Or.inr (Or.inl h)))
        · exact Or.inr h
      · exact Or.inl ((hF k).2 (Or.inr (Or.inr (by rw [← hkt]; exact h))))
    · rcases h with h | h
      · exact (hF k).2 (Or.inl h)
      · exact (hF k).2 (Or.inr (Or.inl h))
  iP := by
    intro (s : RdS) t n now x hI ht0 ht1 ht2 hok hxa hxn hn
    obtain ⟨i1, i2, i3, i4, i5⟩ := hI
    have hxl := ok_len hok
    obtain ⟨h1, h2, h3, h4, h5, h6⟩ := putR_L (P := P) (R := R) (q := q) (s := s) (x := x) i3.1
    have hsum := Fit.sum i2
    have hm := meanR_bd q i4
    refine ⟨⟨by show (putR P R q s x).1.L.length ≤ n + 1; omega, fun y hy => ?_, ⟨h5, by show (putR P R q s x).1.since ≤ _; omega⟩, ?_, ?_⟩, by show (putR P R q s x).2.length ≤ _; omega⟩
    · rcases h1 y hy with h | h | h
      · exact i2 y h
      · subst h; omega
      · subst h; show 0 ≤ x.l ∧ x.l ≤ 10000; omega
    · show 0 ≤ (putR P R q s x).1.sum
      rw [h4]; omega
    · show (putR P R q s x).1.sum ≤ 10000000 * ((n + 1 : Nat) : Int)
      rw [h4]; omega
  cT := by
    rintro w F (s : RdS) t n now ⟨v, tv, h, hF⟩ hI ht0 ht1 ht2 hn
    obtain ⟨i1, i2, i3, i4, i5⟩ := hI
    refine (fifo_take now w h.pos ⟨by omega, i2⟩).mono ?_
    rintro e w' ⟨rfl, v', hl, hk, ho⟩
    refine ⟨_, F, rfl, Hs.nil _, ⟨v', tv, ⟨hl, Seg.oth h.tape ho (fun k hk' e => h.tb (by rw [← e]; exact hk')), h.tb, fun k hk' => by rw [hk]; exact h.tvv k hk'⟩, fun k => by rw [hF, hk]⟩, fun k hk => Or.inl hk, fun k hk => by simp [Value.ownBlock] at hk, ho.mono (fun k _ h => (hF k).2 (Or.inl h))⟩
  iT := by
    intro (s : RdS) t n now hI ht0 ht1 ht2 hn
    obtain ⟨i1, i2, i3, i4, i5⟩ := hI
    exact ⟨⟨by show s.L.tail.length ≤ n; rw [List.length_tail]; omega, fun y hy => i2 y (List.mem_of_mem_tail hy), i3, i4, i5⟩, by simp [RedM]⟩
  cW := by
    rintro w F (s : RdS) t n now ⟨v, tv, h, hF⟩ hI ht0 ht1 ht2 hn
    refine (fifo_when now w h.pos).mono ?_
    rintro e w' ⟨rfl, rfl⟩
    exact ⟨F, rfl, ⟨v, tv, h, hF⟩, fun k hk => Or.inl hk, Ot.refl _ _⟩
  iW := by
    intro (s : RdS) t n now hI ht0 ht1 ht2 hn
    exact hI
  cL := by
    rintro w F (s : RdS) t n ⟨v, tv, h, hF⟩ hI hn
    exact (len_any w h.pos).mono (by rintro e w' ⟨rfl, rfl⟩; exact ⟨rfl, Below.refl _ _⟩)
  cB := by
    rintro w F (s : RdS) t n ⟨v, tv, h, hF⟩ hI hn
    exact (bytes_any w h.pos).mono (by rintro e w' ⟨rfl, rfl⟩; exact ⟨rfl, Below.refl _ _⟩)
end Go.Proofs.YtfakjedolecdcaaGreatDoor
namespace Go.Proofs.YtfakjedolecdcaaGreatDoor
open Go.RowKit Go.Extern.Stop Go.Stop Go.Extern

theorem newBands_limit {x : Option Addr} {N cap : Nat} (w : World) (h : N < 1 ∨ 8 < N) (hm : N ≤ 1000) :
    Calls Tryz.prog 54 #[.slice x N cap] w fun e w' => e = .returned (.tuple #[.pointer none, .iface 57 (.int .i64 4)]) ∧ w' = w := by
  rcases h with h | h
  · go_enter Tryz.func54, Tryz.ntmps54
    go_wp2
    all_goals
      go_ret2
      exact ⟨rfl, rfl⟩
  · go_enter Tryz.func54, Tryz.ntmps54
    go_wp2
    all_goals
      go_ret2
      exact ⟨rfl, rfl⟩
theorem nilC_yes (w : World) : Calls Tryz.prog 71 #[.nilIface] w fun e w' => e = .returned (.bool true) ∧ w' = w := by
  go_enter Tryz.func71, Tryz.ntmps71
  go_wp2
  go_ret
  exact ⟨rfl, rfl⟩
set_option maxHeartbeats 1000000 in
theorem index_last {b off N cap : Nat} {Q : Nat → TypeId × Value} (w : World) (h : QRowAt w b off N Q) (hl : w.cell? ⟨b, off + N, none⟩ = some .nilIface) (hN : N ≤ 7) :
    Calls Tryz.prog 84 #[.slice (some ⟨b, off, none⟩) (N + 1) cap, .func (.func 71) #[] #[]] w fun e w' => e = .returned (.int .i64 N) ∧ w' = w := by
  have H : Hid (QRowAt w b off N Q) := h
  have HL : Hid (w.cell? ⟨b, off + N, none⟩ = some .nilIface) := hl
  clear h hl
  have hent := eNilC
  go_enter Tryz.func84, Tryz.ntmps84
  go_wp2
  go_loopw [8] (fun i wr => ∃ k : Nat, k ≤ N ∧ i = .int .i64 k ∧ wr = w) (fun i _ => N + 1 - (intOf i).toNat)
  case atStart => exact ⟨0, Nat.zero_le _, rfl, rfl⟩
  case round =>
    obtain ⟨k, hk, rfl, rfl⟩ := hrel
    by_cases hlt : k < N
    · have hc := H.out k hlt
      go_wp2_with (go_at_call 71; refine (nilC_no _ _ _).mono ?_; rintro e w1 ⟨rfl, rfl⟩)
      go_roundw
      case rel => exact ⟨k + 1, by omega, by go_num, by first | rfl | trivial⟩
      case measure => simp [intOf]; omega
    · obtain rfl : k = N := by omega
      have hc := HL.out
      go_wp2_with (go_at_call 71; refine (nilC_yes _).mono ?_; rintro e w1 ⟨rfl, rfl⟩)
      go_ret
      exact ⟨rfl, rfl⟩
theorem contains_last {b off N cap : Nat} {Q : Nat → TypeId × Value} (w : World) (h : QRowAt w b off N Q) (hl : w.cell? ⟨b, off + N, none⟩ = some .nilIface) (hN : N ≤ 7) :
    Calls Tryz.prog 70 #[.slice (some ⟨b, off, none⟩) (N + 1) cap, .func (.func 71) #[] #[]] w fun e w' => e = .returned (.bool true) ∧ w' = w := by
  have HC := index_last (cap := cap) w h hl hN
  clear h hl
  go_enter Tryz.func70, Tryz.ntmps70
  go_wp2_with (go_at_call 84; refine HC.mono ?_; rintro e w1 ⟨rfl, rfl⟩)
  go_ret
  exact ⟨rfl, rfl⟩
theorem newBands_missing {b off N cap : Nat} {Q : Nat → TypeId × Value} (w : World) (h : QRowAt w b off N Q) (hl : w.cell? ⟨b, off + N, none⟩ = some .nilIface) (hN : N ≤ 7) :
    Calls Tryz.prog 54 #[.slice (some ⟨b, off, none⟩) (N + 1) cap] w fun e w' => e = .returned (.tuple #[.pointer none, .iface 57 (.int .i64 7)]) ∧ w' = w := by
  have HC := contains_last (cap := cap) w h hl hN
  clear h hl
  go_enter Tryz.func54, Tryz.ntmps54
  go_wp2_with (go_at_call 70; refine HC.mono ?_; rintro e w1 ⟨rfl, hw1⟩; subst hw1)
  go_ret2
  exact ⟨rfl, rfl⟩
end Go.Proofs.YtfakjedolecdcaaGreatDoor
namespace Go.Proofs.YtfakjedolecdcaaGreatDoor
open Go.RowKit Go.Extern.Stop Go.Stop Go.Extern

def rtN : Nat → Nat
  | 0 => 0
  | n + 1 => if (rtN n + 1) * (rtN n + 1) ≤ n + 1 then rtN n + 1 else rtN n
theorem sq_succ (r : Nat) : (r + 1) * (r + 1) = r * r + 2 * r + 1 := by
  simp only [Nat.add_mul, Nat.mul_add]; omega
theorem rtN_spec (n : Nat) : rtN n * rtN n ≤ n ∧ n < (rtN n + 1) * (rtN n + 1) := by
  induction n with
  | zero => simp [rtN]
  | succ n ih =>
    obtain ⟨h1, h2⟩ := ih
    simp only [rtN]
    split
    · rename_i h
      refine ⟨h, ?_⟩
      have e1 := sq_succ (rtN n + 1)
      have e2 := sq_succ (rtN n)
      omega
    · rename_i h
      exact ⟨by omega, by omega⟩
theorem sq_le {a b : Nat} (h : a ≤ b) : a * a ≤ b * b := Nat.mul_le_mul h h
theorem rt_uniq {n r : Nat} (h1 : r * r ≤ n) (h2 : n < (r + 1) * (r + 1)) : r = rtN n := by
  obtain ⟨k1, k2⟩ := rtN_spec n
  rcases Nat.lt_trichotomy r (rtN n) with h | h | h
  · have := sq_le (show r + 1 ≤ rtN n from h); omega
  · exact h
  · have := sq_le (show rtN n + 1 ≤ r from h); omega
theorem rtN_le (n : Nat) : rtN n ≤ n := by
  obtain ⟨k1, _⟩ := rtN_spec n
  cases h : rtN n with
  | zero => omega
  | succ r => rw [h, sq_succ] at k1; omega
theorem rtN_pos {n : Nat} (h : 1 ≤ n) : 1 ≤ rtN n := by
  obtain ⟨_, k2⟩ := rtN_spec n
  cases h' : rtN n with
  | zero => rw [h'] at k2; omega
  | succ r => omega
theorem newton_ge {n g r : Nat} (hg : 1 ≤ g) (hr : r * r ≤ n) : r ≤ (g + n / g) / 2 := by
  by_cases h : 2 * r ≤ g
  · have : r ≤ (g + n / g) / 2 := by
      have := Nat.zero_le (n / g)
      omega
    exact this
  · have h1 : (2 * r - g) * g ≤ r * r := by
      rcases Nat.le_total g r with hgr | hgr
      · obtain ⟨d, rfl⟩ := Nat.exists_eq_add_of_le hgr
        have : 2 * (g + d) - g = g + 2 * d := by omega
        rw [this]
        simp only [Nat.add_mul, Nat.mul_add]
        have := Nat.mul_comm g d
        have : 2 * d * g = 2 * (d * g) := Nat.mul_assoc _ _ _
        omega
      · obtain ⟨d, rfl⟩ := Nat.exists_eq_add_of_le hgr
        obtain ⟨e, rfl⟩ : ∃ e, r = d + e := ⟨r - d, by omega⟩
        have : 2 * (d + e) - (d + e + d) = e := by omega
        rw [this]
        simp only [Nat.add_mul, Nat.mul_add]
        have := Nat.mul_comm e d
        omega
    have h2 : 2 * r - g ≤ n / g := (Nat.le_div_iff_mul_le (by omega)).2 (Nat.le_trans h1 hr)
    omega
theorem newton_end {n g : Nat} (hg : 1 ≤ g) (h : g ≤ (g + n / g) / 2) (hr : rtN n ≤ g) : g = rtN n := by
  have h1 : g ≤ n / g := by omega
  have h2 : g * g ≤ n := (Nat.le_div_iff_mul_le (by omega)).1 h1
  obtain ⟨_, k2⟩ := rtN_spec n
  rcases Nat.lt_or_ge (rtN n) g with h3 | h3
  · have := sq_le (show rtN n + 1 ≤ g from h3); omega
  · omega
/-- The law of a time. -/
def lawD (S n t : Int) : Int := t + (S * 1000) / (rtN (1000000 * n).toNat : Int)
/-- What a Delay keeps. -/
structure DlS where
  L : List Hd
  late : Bool
  dl : Int
  throws : Bool
  count : Int
  next : Int
/-- One is pulled: what is left, the one, whether there is one, whether it is bad. -/
def pullD (T S : Int) (s : DlS) (now : Int) : DlS × Hd × Bool × Bool :=
  match s.L with
  | [] => ({ s with late := false }, hd0, false, false)
  | x :: L => if now - x.a < T ∨ L = [] then ({ s with L := L, late := false }, x, true, false) else if s.late = false then ({ s with L := L, late := true, dl := now + S }, x, true, false) else ({ s with L := L }, x, true, decide (s.dl ≤ now))
/-- Bad ones are thrown away from x on, as long as it is time. -/
def goD (T S now : Int) : List Hd → DlS → Hd → DlS × List Hd × Hd × Bool
  | [], s, x => if now < s.next then (s, [], x, true) else ({ s with late := false, throws := false, count := s.count + 1 }, [x], hd0, false)
  | y :: L, s, x =>
    if now < s.next then (s, [], x, true)
    else if (pullD T S { s with count := s.count + 1 } now).2.2.2 then
      let r := goD T S now L { (pullD T S { s with count := s.count + 1 } now).1 with throws := true, next := lawD S (s.count + 1) s.next } y
      (r.1, x :: r.2.1, r.2.2.1, r.2.2.2)
    else ({ (pullD T S { s with count := s.count + 1 } now).1 with throws := false }, [x], y, true)
/-- It begins to throw away. -/
def beginD (S : Int) (s : DlS) (now : Int) : DlS :=
  let c := if 2 < s.count ∧ now - s.next < 16 * S then s.count - 2 else 1
  { s with throws := true, count := c, next := lawD S c now }
/-- One is taken. -/
def takeD (T S : Int) (s : DlS) (now : Int) : DlS × List Hd × Hd × Bool :=
  let p := pullD T S s now
  if p.2.2.2 = false then ({ p.1 with throws := false }, [], p.2.1, p.2.2.1)
  else if p.1.throws then goD T S now p.1.L p.1 p.2.1
  else
    let r := pullD T S p.1 now
    (beginD S r.1 now, [p.2.1], r.2.1, r.2.2.1)
end Go.Proofs.YtfakjedolecdcaaGreatDoor
