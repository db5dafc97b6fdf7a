/-
  millracekeep.turns: it returns true. No condition.
-/
import Derived.Test.YtjjchknclpfgiaaFn
namespace Go.Proofs.Ytjjchknclpfgiaa
open Go.RowKit Go.Extern.Stop Go.Stop Go.Extern

def g1020 (i : Nat) : Int := if i = 0 then 10 else 20
def q1020 : Nat → Int := qF g1020 2 16
def xT (k : Nat) : Hd := ⟨0, 10, (k : Int) % 2, 0, 0, k⟩
def tS : Nat → RnS
  | 0 => rn0
  | k + 1 => (putW 5 (tS k) (xT k)).1
theorem q1020_ok : ∀ i, i < 16 → 1 ≤ q1020 i ∧ q1020 i ≤ 1000000 := qF_ok (by decide) (by decide)
theorem tS_inv (b : Nat) : ∀ k, k ≤ 4 → (RoundsM b 5 q1020).inv 0 k (tS k) := by
  intro k
  induction k with
  | zero => intro _; exact ⟨rn0_inv q1020_ok, by decide, fun f hf => ⟨by simp [tS, rn0], by simp [tS, rn0]⟩⟩
  | succ k ih =>
    intro hk
    have hok : (xT k).ok = true := by
      have : k = 0 ∨ k = 1 ∨ k = 2 ∨ k = 3 := by omega
      rcases this with rfl | rfl | rfl | rfl <;> decide
    exact ((roundsM_fine b 5 q1020).iP 0 (xT k) (ih (by omega)) (Int.le_refl _) (Int.le_refl _) (by decide) hok rfl rfl (by omega)).1
def s5 : RnS := sendS (beginS q1020 (tS 4) 0) 0 (xT 0) [xT 2]
def s6 : RnS := passS (beginS q1020 s5 0) 0
def s7 : RnS := sendS (beginS q1020 s6 1) 1 (xT 1) [xT 3]
theorem tk1 : takeW q1020 (tS 4) = (s5, [], xT 0, true) := takeW_send (f := 0) (B := [1]) (by decide) (by decide) rfl (by decide)
theorem tk2 : takeW q1020 s5 = (s7, [], xT 1, true) := by
  have h1 : takeW q1020 s5 = takeW q1020 s6 := takeW_pass (f := 0) (B := [1]) (x := xT 2) (L := []) (by decide) rfl (by decide) (by decide)
  rw [h1]
  exact takeW_send (f := 1) (B := [0]) (by decide) (by decide) rfl (by decide)
theorem tk3 : (takeW q1020 s7).2 = ([], xT 3, true) := by
  rw [takeW_send (f := 1) (B := [0]) (x := xT 3) (L := []) (by decide) (by decide) rfl (by decide)]
theorem ptrRn (b : Nat) (w : World) : (binOp .eql 52 (.pointer (some ⟨b, 0, none⟩)) (.pointer none)).run Try.prog w = .ok (.bool false) w := by kernel_rfl
theorem ptrRnN (w : World) : (binOp .eql 52 (.pointer none) (.pointer none)).run Try.prog w = .ok (.bool true) w := by kernel_rfl
set_option maxRecDepth 20000 in
set_option maxHeartbeats 4000000 in
theorem turns_any (w : World) : Calls Try.prog 17 #[] w fun e w' => e = .returned (.bool true) ∧ Below w.heap.size w w' := by
  have hp1 := ptrRn
  have hV := Hd.val_eq
  have HNW : Hid (∀ W : World, W.heap[w.heap.size]? = some (.cells #[.int .i64 10, .int .i64 20] 3 (0, 0)) → Calls Try.prog 16 #[.int .i64 5, .slice (some ⟨w.heap.size, 0, none⟩) 2 2] W fun e w' => e = .returned (.tuple #[.pointer (some ⟨W.heap.size, 0, none⟩), .nilIface]) ∧ ∃ C, RnP w' W.heap.size 5 q1020 C (fun _ => .slice none 0 0) (.slice none 0 0) rn0 ∧ Below W.heap.size W w') := by
    intro W hW
    refine newRn_yes (f := g1020) 5 W (Or.inr ⟨w.heap.size, 0, rfl, lt_of_block hW, fun i hi => ?_⟩) (by decide) (by decide) (by decide) (by decide) (by decide)
    have : i = 0 ∨ i = 1 := by omega
    rcases this with rfl | rfl
    · simp [World.cell?, hW, g1020]
    · simp [World.cell?, hW, g1020]
  go_enter Try.func17, Try.ntmps17
  go_wp2_with (go_at_call 16; fail)
  refine (HNW.out _ (new_block_ rfl)).mono ?_
  rintro e w1 ⟨rfl, C1, hP1, hb1⟩
  have HB1 : Hid (Below w.heap.size w w1) := (below_alloc_ (Below.refl w.heap.size w) _).trans (hb1.mono (by simp))
  obtain ⟨b, hb⟩ : ∃ b, (w.alloc (.cells #[.int .i64 10, .int .i64 20] 3)).heap.size = b := ⟨_, rfl⟩
  have hbw : w.heap.size < b := by rw [← hb]; simp
  have hb' : w.heap.size + 1 = b := by rw [← hb]; simp
  rw [hb] at hP1
  have HP1 : Hid (RnP w1 b 5 q1020 C1 (fun _ => .slice none 0 0) (.slice none 0 0) rn0) := hP1
  clear hP1 hb1 hb
  have hM := roundsM_fine b 5 q1020
  have HM : Hid (RoundsM b 5 q1020).Fine := hM
  have HA1 : Hid ((RoundsM b 5 q1020).At w1 (RnF b (fun _ => .slice none 0 0) (.slice none 0 0)) (tS 0)) := ⟨C1, _, _, HP1.out, fun k => Iff.rfl⟩
  have HF1 : Hid (∀ j, RnF b (fun _ => .slice none 0 0) (.slice none 0 0) j → b ≤ j) := by
    rintro j (h | ⟨f, _, h⟩ | h)
    · omega
    · simp [Value.ownBlock] at h
    · simp [Value.ownBlock] at h
  have HIV : Hid (∀ k, k ≤ 4 → (RoundsM b 5 q1020).inv 0 k (tS k)) := tS_inv b
  have HI5 : Hid ((RoundsM b 5 q1020).inv 0 4 s5) := by
    have h1 := (hM.iT 0 (tS_inv b 4 (by omega)) (Int.le_refl _) (Int.le_refl _) (by decide) (by omega)).1
    have e : (RoundsM b 5 q1020).take (tS 4) 0 = (s5, [], xT 0, true) := tk1
    rw [e] at h1
    exact h1
  have HI7 : Hid ((RoundsM b 5 q1020).inv 0 4 s7) := by
    have h1 := (hM.iT 0 HI5.out (Int.le_refl _) (Int.le_refl _) (by decide) (by omega)).1
    have e : (RoundsM b 5 q1020).take s5 0 = (s7, [], xT 1, true) := tk2
    rw [e] at h1
    exact h1
  have HT : Hid (∀ (s s' : RnS) (x : Hd), (takeW q1020 s).2 = ([], x, true) → (takeW q1020 s).1 = s' → (RoundsM b 5 q1020).inv 0 4 s → ∀ (W : World) (F : Nat → Prop), (RoundsM b 5 q1020).At W F s → Calls Try.prog 19 #[.pointer (some ⟨b, 0, none⟩), .int .i64 0] W fun e w' => ∃ u F', e = .returned (.tuple #[x.val, u, .bool true]) ∧ (RoundsM b 5 q1020).At w' F' s' ∧ (∀ k, F' k → F k ∨ W.heap.size ≤ k) ∧ Ot F W w') := by
    intro s s' x hx hs hI W F hA
    refine (HM.out.cT (t := 0) (n := 4) 0 hA hI (Int.le_refl _) (Int.le_refl _) (by decide) (by omega)).mono ?_
    rintro e w' ⟨u, F', he, _, hA', hF', _, hO⟩
    have e1 : (RoundsM b 5 q1020).take s 0 = (s', [], x, true) := by show takeW q1020 s = _; rw [← hs, ← hx]
    rw [e1] at he hA'
    exact ⟨u, F', he, hA', hF', hO⟩
  clear hM
  go_wp2
  go_loopw [3] (fun i wr => ∃ (k : Nat) (F : Nat → Prop), k ≤ 4 ∧ i = .int .i64 k ∧ (RoundsM b 5 q1020).At wr F (tS k) ∧ (∀ j, F j → b ≤ j) ∧ Below w.heap.size w wr) (fun i _ => 4 - (intOf i).toNat)
  case atStart => exact ⟨0, _, Nat.zero_le _, rfl, HA1.out, HF1.out, HB1.out⟩
  case round =>
    obtain ⟨k, F, hk, rfl, hA, hF, hB⟩ := hrel
    have HA : Hid ((RoundsM b 5 q1020).At wr F (tS k)) := hA
    have HF : Hid (∀ j, F j → b ≤ j) := hF
    have HB : Hid (Below w.heap.size w wr) := hB
    have hbr : b < wr.heap.size := by
      obtain ⟨C, vs, tv, h, _⟩ := hA
      exact h.blk.lt
    clear hA hF hB
    by_cases hlt : k < 4
    · have hok : (xT k).ok = true := by
        have : k = 0 ∨ k = 1 ∨ k = 2 ∨ k = 3 := by omega
        rcases this with rfl | rfl | rfl | rfl <;> decide
      have HPT : Hid (Calls Try.prog 18 #[.pointer (some ⟨b, 0, none⟩), .int .i64 0, .agg #[.int .i64 0, .int .i64 10, .int .i64 ((k : Int) % 2), .int .i64 0, .int .i64 0, .int .i64 k]] wr fun e w' => ∃ u F', e = .returned u ∧ (RoundsM b 5 q1020).At w' F' (tS (k + 1)) ∧ (∀ k, F' k → F k ∨ wr.heap.size ≤ k) ∧ Ot F wr w') := by
        refine (HM.out.cP (t := 0) (n := k) 0 (xT k) HA.out (HIV.out k (by omega)) (Int.le_refl _) (Int.le_refl _) (by decide) hok rfl rfl (by omega)).mono ?_
        rintro e w' ⟨u, F', he, _, hA', hF', _, hO⟩
        exact ⟨u, F', he, hA', hF', hO⟩
      have htm : ((k : Int)).tmod 2 = (k : Int) % 2 := Int.tmod_eq_emod_of_nonneg (by omega)
      clear hok
      go_wp2_with (go_at_call 18; refine HPT.out.mono ?_; rintro e w2 ⟨u2, F2, rfl, hA2, hF2, hO2⟩; have HA2 : Hid ((RoundsM b 5 q1020).At w2 F2 (tS (k + 1))) := hA2; have HF2 : Hid (∀ j, F2 j → b ≤ j) := (fun j hj => by { rcases hF2 j hj with h | h; exact HF.out j h; omega }); have HB2 : Hid (Below w.heap.size w w2) := HB.out.trans (hO2.below HB.out.size (fun j hj => by { have := HF.out j hj; omega })); clear hA2 hF2 hO2)
      go_roundw
      case rel => exact ⟨k + 1, F2, by omega, by go_num, HA2.out, HF2.out, HB2.out⟩
      case measure => simp [intOf]; omega
    · obtain rfl : k = 4 := by omega
      have c1 := HT.out (tS 4) s5 (xT 0) (by rw [tk1]) (by rw [tk1]) (HIV.out 4 (by omega)) wr F HA.out
      go_wp2_with (go_at_call 19; fail)
      refine c1.mono ?_
      rintro e w2 ⟨u2, F2, rfl, hA2, hF2, hO2⟩
      have hl2 := HM.out.low hA2
      have hF2' : ∀ j, F2 j → b ≤ j := fun j hj => by rcases hF2 j hj with h | h; exact HF.out j h; omega
      have HB2 : Hid (Below w.heap.size w w2) := HB.out.trans (hO2.below HB.out.size (fun j hj => by have := HF.out j hj; omega))
      have hbs2 : b < w2.heap.size := Nat.lt_of_lt_of_le hbr hO2.size
      have HA2 : Hid (∀ o : Obj, (RoundsM b 5 q1020).At (w2.alloc o) F2 s5) := fun o => HM.out.kept hA2 (fun j hj => Below.heap_alloc _ _ _ (hl2 j hj))
      have HL2 : Hid (∀ j, F2 j → b ≤ j ∧ j < w2.heap.size) := fun j hj => ⟨hF2' j hj, hl2 j hj⟩
      clear hA2 hF2 hO2 hl2 hF2' c1
      have HC2 : Hid (∀ o : Obj, Calls Try.prog 19 #[.pointer (some ⟨b, 0, none⟩), .int .i64 0] (w2.alloc o) fun e w' => ∃ u F', e = .returned (.tuple #[(xT 1).val, u, .bool true]) ∧ (RoundsM b 5 q1020).At w' F' s7 ∧ (∀ k, F' k → F2 k ∨ (w2.alloc o).heap.size ≤ k) ∧ Ot F2 (w2.alloc o) w') := fun o => HT.out s5 s7 (xT 1) (by rw [tk2]) (by rw [tk2]) HI5.out _ F2 (HA2.out o)
      go_wp2_with (go_at_call 19; fail)
      refine (HC2.out _).mono ?_
      rintro e w3 ⟨u3, F3, rfl, hA3, hF3, hO3⟩
      have hl3 := HM.out.low hA3
      have hs3 : w2.heap.size + 1 ≤ w3.heap.size := by have := hO3.size; simpa using this
      have hx3 : w3.heap[w2.heap.size]? = _ := (hO3.block _ (by simp) (fun hf => by have := (HL2.out _ hf).2; omega)).trans (new_block w2 _)
      have HX3 : Hid (w3.cell? ⟨w2.heap.size, 5, none⟩ = some (.int .i64 0)) := by show _ = _; simp [World.cell?, hx3, xT]
      have HB3 : Hid (Below w.heap.size w w3) := (below_alloc_ HB2.out _).trans (hO3.below (by have := HB2.out.size; simp; omega) (fun j hj => by have := (HL2.out j hj).1; omega))
      have HA3 : Hid (∀ o : Obj, (RoundsM b 5 q1020).At (w3.alloc o) F3 s7) := fun o => HM.out.kept hA3 (fun j hj => Below.heap_alloc _ _ _ (hl3 j hj))
      have HL3 : Hid (∀ j, F3 j → (b ≤ j ∧ j < w3.heap.size) ∧ j ≠ w2.heap.size) := fun j hj => by
        refine ⟨⟨?_, hl3 j hj⟩, ?_⟩
        · rcases hF3 j hj with h | h
          · exact (HL2.out j h).1
          · simp at h; omega
        · rcases hF3 j hj with h | h
          · have := (HL2.out j h).2; omega
          · simp at h; omega
      clear hA3 hF3 hO3 hl3 hx3
      have HC3 : Hid (∀ o : Obj, Calls Try.prog 19 #[.pointer (some ⟨b, 0, none⟩), .int .i64 0] (w3.alloc o) fun e w' => ∃ u F', e = .returned (.tuple #[(xT 3).val, u, .bool true]) ∧ (RoundsM b 5 q1020).At w' F' (takeW q1020 s7).1 ∧ (∀ k, F' k → F3 k ∨ (w3.alloc o).heap.size ≤ k) ∧ Ot F3 (w3.alloc o) w') := fun o => HT.out s7 _ (xT 3) tk3 rfl HI7.out _ F3 (HA3.out o)
      go_wp2_with (go_at_call 19; fail)
      refine (HC3.out _).mono ?_
      rintro e w4 ⟨u4, F4, rfl, _, _, hO4⟩
      have hs4 : w3.heap.size + 1 ≤ w4.heap.size := by have := hO4.size; simpa using this
      have hx4 : w4.heap[w3.heap.size]? = _ := (hO4.block _ (by simp) (fun hf => by have := (HL3.out _ hf).1.2; omega)).trans (new_block w3 _)
      have k2 : w4.cell? ⟨w3.heap.size, 5, none⟩ = some (.int .i64 1) := by simp [World.cell?, hx4, xT]
      have k1 : w4.cell? ⟨w2.heap.size, 5, none⟩ = some (.int .i64 0) := by
        rw [hO4.cell (p := ⟨w2.heap.size, 5, none⟩) (by simp; omega) (fun hf => (HL3.out _ hf).2 rfl)]
        rw [World.cell?_of_block (w := w3) (a := ⟨w2.heap.size, 5, none⟩) (Below.heap_alloc w3 _ w2.heap.size (show w2.heap.size < w3.heap.size by omega))]
        exact HX3.out
      have HB4 : Hid (Below w.heap.size w w4) := (below_alloc_ HB3.out _).trans (hO4.below (by have := HB3.out.size; simp; omega) (fun j hj => by have := (HL3.out j hj).1.1; omega))
      have l1 : w2.heap.size < w4.heap.size := by omega
      have l2 : w3.heap.size < w4.heap.size := by omega
      have l3 : ¬ w2.heap.size = w4.heap.size := by omega
      have l4 : ¬ w3.heap.size = w4.heap.size := by omega
      clear hO4 hx4
      go_wp2
      go_ret
      exact ⟨rfl, below_alloc_ HB4.out _⟩
end Go.Proofs.Ytjjchknclpfgiaa
