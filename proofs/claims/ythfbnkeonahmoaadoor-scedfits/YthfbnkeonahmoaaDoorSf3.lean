/-
  millraceref.ScedFits; the law ScedFits returns true at any flows. Conditions: the flows lie in memory, their list takes at most 2^47 bytes, and errors.errorType holds its handle.
-/
import Derived.Test.YthfbnkeonahmoaaDoorSf2
namespace Go.Proofs.YthfbnkeonahmoaaDoor
open Go.RowKit Go.Extern.Stop Go.Stop Go.Extern

theorem rch_ex {F : Nat → Flw} : ∀ m, ∃ i, i < m + 1 ∧ rch F (m + 1) = (F i).m := by
  intro m
  induction m with
  | zero => exact ⟨0, by omega, by simp [rch]⟩
  | succ m ih =>
    obtain ⟨i, hi, e⟩ := ih
    by_cases h : rch F (m + 1) ≤ (F (m + 1)).m
    · exact ⟨i, by omega, by rw [← e]; show min (rch F (m + 1)) (F (m + 1)).m = _; omega⟩
    · exact ⟨m + 1, by omega, by show min (rch F (m + 1)) (F (m + 1)).m = _; omega⟩
set_option maxHeartbeats 4000000 in
theorem rfits_any (b off cap m : Nat) (F : Nat → Flw) (w : World) (hF : FlsAt w b off m F) (hok : FsOk m F) :
    Calls Tryd.prog 10 #[.slice (some ⟨b, off, none⟩) m cap] w fun e w' => e = .returned (.bool (fitsB m F)) ∧ Below w.heap.size w w' := by
  have HF : Hid (FlsAt w b off m F) := hF
  have HOK : Hid (FsOk m F) := hok
  have hm8 := hok.hi
  have hm1 := hok.lo
  have HRB : Hid (rch F m ≤ 201) := by
    have h1 := rch_le (F := F) m 0 (by omega)
    have h2 := (hok.ok 0 (by omega)).cv.len
    show _ ≤ _
    omega
  have hrb := HRB.out
  clear hF hok
  go_enter Tryd.func10, Tryd.ntmps10
  go_wp2
  go_loopw [3] (fun i wr => ∃ t : Nat, t ≤ rch F m ∧ i = .int .i64 t ∧ Hid (∀ u, u < t → tot (fun i => (F i).p u) m ≤ u) ∧ Below w.heap.size w wr) (fun i _ => rch F m + 1 - (intOf i).toNat)
  case atStart => exact ⟨0, Nat.zero_le _, rfl, fun u hu => by omega, Below.refl _ _⟩
  case round =>
    obtain ⟨t, ht, rfl, HQ, hbel⟩ := hrel
    have HB : Hid (Below w.heap.size w wr) := hbel
    clear hbel
    go_wp2
    go_loopw [4, 11] (fun s i wx => ∃ j : Nat, j ≤ m ∧ i = .int .i64 j ∧ s = .int .i64 (tot (fun i => (F i).p t) j) ∧ Hid (∀ i, i < j → (F i).m ≠ t) ∧ Below w.heap.size w wx) (fun _ i _ => m - (intOf i).toNat)
    case atStart => exact ⟨0, Nat.zero_le _, rfl, rfl, fun i hi => by omega, HB.out⟩
    case round =>
      obtain ⟨j, hj, rfl, rfl, HN, hbel⟩ := hrel
      have HBX : Hid (Below w.heap.size w wr) := hbel
      clear hbel
      by_cases hjm : j < m
      · obtain ⟨c0, c1, hw0⟩ := HF.out.below HBX.out j hjm
        have hsz : b < wr.heap.size := World.block_lt_of_cell? wr _ c0
        have hrl := rch_le (F := F) m j hjm
        have hcv := (HOK.out.ok j hjm).cv
        by_cases he : (F j).m = t
        · have HY : Hid (fitsB m F = true) := fitsB_yes fun u hu => HQ.out u (by omega)
          generalize F j = f at *
          obtain ⟨x, cx, n, c, y, cy, mm, p⟩ := f
          simp only at c0 c1 he
          subst he
          clear hcv hw0 hrl
          go_wp2
          go_ret
          exact ⟨by rw [HY.out]; rfl, below_alloc_ HBX.out _⟩
        · have htl : t < (F j).m := by omega
          obtain ⟨b1, o1, hy⟩ := hw0.rp.some (by omega)
          have hrp := hw0.rp
          rw [hy] at c1 hrp
          have c2 := hrp.at htl
          have hs2 : b1 < wr.heap.size := World.block_lt_of_cell? wr _ c2
          have hl5 := hcv.len
          have q0 := hcv.low t htl
          have q1 := hcv.top t htl
          have e0 : IntKind.i64.wrap (tot (fun i => (F i).p t) j + (F j).p t) = tot (fun i => (F i).p t) (j + 1) := by
            have := tot_bd (c := fun i => (F i).p t) (n := j) (B := 1000000000000) (fun i hi => by
              have h1 := rch_le (F := F) m i (by omega)
              have h2 := (HOK.out.ok i (by omega)).cv
              have h3 := HN.out i hi
              exact ⟨h2.low t (by omega), h2.top t (by omega)⟩) j (Nat.le_refl _)
            rw [IntKind.wrap_i64]
            simp only [tot]
            omega
          have HN' : Hid (∀ i, i < j + 1 → (F i).m ≠ t) := fun i hi => by
            by_cases e : i = j
            · subst e; exact he
            · exact HN.out i (by omega)
          obtain ⟨s1, HS1⟩ : ∃ s1, Hid (tot (fun i => (F i).p t) (j + 1) = s1) := ⟨_, rfl⟩
          rw [HS1.out] at e0
          clear hw0 hrp hy hcv hrl q0 q1
          generalize F j = f at *
          obtain ⟨x, cx, n, c, y, cy, mm, p⟩ := f
          simp only at c0 c1 c2 e0 he htl hl5
          have he' : ¬ (t : Int) = (mm : Int) := by omega
          go_wp2
          go_roundw
          case rel => exact ⟨j + 1, by omega, by go_num, by rw [HS1.out], HN', below_alloc_ HBX.out _⟩
          case measure => simp [intOf]; omega
      · obtain rfl : j = m := by omega
        have htr : t < rch F j := by
          obtain ⟨q, rfl⟩ : ∃ q, j = q + 1 := ⟨j - 1, by omega⟩
          obtain ⟨i, hi, e⟩ := rch_ex (F := F) q
          have := HN.out i hi
          omega
        by_cases hgt : (t : Int) < tot (fun i => (F i).p t) j
        · have HY : Hid (fitsB j F = false) := fitsB_no fun hf => by have := hf t htr; omega
          go_wp2
          go_ret
          exact ⟨by rw [HY.out]; rfl, HBX.out⟩
        · have HQ' : Hid (∀ u, u < t + 1 → tot (fun i => (F i).p u) j ≤ u) := fun u hu => by
            by_cases e : u = t
            · subst e; omega
            · exact HQ.out u (by omega)
          go_wp2
          go_roundw
          case rel => exact ⟨t + 1, by omega, by go_num, HQ', HBX.out⟩
          case measure => simp [intOf]; omega

set_option maxHeartbeats 4000000 in
theorem lfits_any (x : Option Addr) (cap m : Nat) (F : Nat → Flw) (w : World) (hL : Laid w) (hm : m ≤ maxLen) (hs : m * 48 ≤ 140737488355328) (hA : FlArg w x m F) :
    Calls Tryd.prog 3 #[.slice x m cap] w fun e w' => e = .returned (.bool true) ∧ Below w.heap.size w w' := by
  have HA : Hid (FlArg w x m F) := hA
  have HL : Hid (Laid w) := hL
  have HM : Hid (m ≤ maxLen) := hm
  have HFL : Hid (Calls Tryd.prog 5 #[.slice x m cap] w fun e w' => ∃ (y : Option Addr) (cy : Nat) (ok : Bool), e = .returned (.tuple #[.slice y m cy, .bool ok]) ∧ FlArg w' y m F ∧ (ok = true → m ≤ 20) ∧ Below w.heap.size w w') := lflows_any x cap m F w hm hs hA
  clear hA hL hm hs
  go_enter Tryd.func3, Tryd.ntmps3
  go_wp2_with fail
  refine HFL.out.mono ?_
  rintro e w1 ⟨y, cy, ok, rfl, hfa, _, hb1⟩
  have HFA : Hid (FlArg w1 y m F) := hfa
  have HB1 : Hid (Below w.heap.size w w1) := hb1
  clear hfa hb1
  cases ok with
  | false =>
    go_wp2
    go_ret
    exact ⟨rfl, HB1.out⟩
  | true =>
    go_wp2_with fail
    refine (rscedA y cy m F w1 HFA.out).mono ?_
    rintro e w2 ⟨rfl, hb2⟩
    have HB2 : Hid (Below w.heap.size w w2) := below_after HB1.out hb2
    have HFA2 : Hid (FlArg w2 y m F) := HFA.out.below hb2
    clear hb2
    obtain ⟨E, HE⟩ : ∃ E, Hid (scedE m F = E) := ⟨_, rfl⟩
    rw [HE.out]
    have HCK : Hid (∀ W, Below w.heap.size w W → Calls Tryd.prog 9 #[.slice x m cap] W fun e w' => e = .returned (errV E) ∧ Below W.heap.size W w') := fun W hW => by
      have := checkA x cap m F W HM.out (HA.out.below hW)
      rw [HE.out] at this
      exact this
    by_cases hz : E = 0
    · subst hz
      have hok := scedE_zero.1 HE.out
      obtain ⟨b, off, rfl, hF⟩ : ∃ b off, x = some ⟨b, off, none⟩ ∧ FlsAt w b off m F := by
        rcases HA.out with h | h
        · have := hok.lo; omega
        · exact h
      obtain ⟨b', off', rfl, hF'⟩ : ∃ b off, y = some ⟨b, off, none⟩ ∧ FlsAt w2 b off m F := by
        rcases HFA2.out with h | h
        · have := hok.lo; omega
        · exact h
      have HF : Hid (FlsAt w b off m F) := hF
      have HF' : Hid (FlsAt w2 b' off' m F) := hF'
      have HOK : Hid (FsOk m F) := hok
      obtain ⟨fb, HFB⟩ : ∃ fb, Hid (fitsB m F = fb) := ⟨_, rfl⟩
      clear hok hF hF'
      rw [errV_zero] at HCK
      go_wp2_with fail
      refine (sfits_any b off cap m F w2 (HF.out.below HB2.out) HOK.out).mono ?_
      rw [HFB.out]
      rintro e w3 ⟨rfl, hb3⟩
      have HB3 : Hid (Below w.heap.size w w3) := below_after HB2.out hb3
      have HF3 : Hid (FlsAt w3 b' off' m F) := HF'.out.below hb3
      clear hb3
      go_wp2_with fail
      refine (bare_nil w3 (HL.out.below HB3.out)).mono ?_
      rintro e w4 ⟨rfl, hb4⟩
      have HB4 : Hid (Below w.heap.size w w4) := below_after HB3.out hb4
      have HF4 : Hid (FlsAt w4 b' off' m F) := HF3.out.below hb4
      clear hb4
      go_wp2_with fail
      refine (HCK.out w4 HB4.out).mono ?_
      rintro e w5 ⟨rfl, hb5⟩
      have HB5 : Hid (Below w.heap.size w w5) := below_after HB4.out hb5
      have HF5 : Hid (FlsAt w5 b' off' m F) := HF4.out.below hb5
      clear hb5
      go_wp2_with fail
      refine (bare_nil w5 (HL.out.below HB5.out)).mono ?_
      rintro e w6 ⟨rfl, hb6⟩
      have HB6 : Hid (Below w.heap.size w w6) := below_after HB5.out hb6
      have HF6 : Hid (FlsAt w6 b' off' m F) := HF5.out.below hb6
      clear hb6
      go_wp2_with fail
      refine (rfits_any b' off' cy m F w6 HF6.out HOK.out).mono ?_
      rw [HFB.out]
      rintro e w7 ⟨rfl, hb7⟩
      have HB7 : Hid (Below w.heap.size w w7) := below_after HB6.out hb7
      clear hb7
      cases fb <;>
      · go_wp2
        go_ret
        exact ⟨rfl, HB7.out⟩
    · have hz' : (E == 0) = false := by simpa using hz
      have HZ : Hid (E ≠ 0) := hz
      have HFT : Hid (∀ W, Below w.heap.size w W → Calls Tryd.prog 7 #[.slice x m cap] W fun e w' => e = .returned (.tuple #[.bool false, .iface 26 (.int .i64 E)]) ∧ Below W.heap.size W w') := fun W hW => by
        have := sfits_no x cap m E W HZ.out (HCK.out W hW)
        rw [errV_not HZ.out] at this
        exact this
      rw [errV_not hz] at HCK
      go_wp2_with fail
      refine (HFT.out w2 HB2.out).mono ?_
      rintro e w3 ⟨rfl, hb3⟩
      have HB3 : Hid (Below w.heap.size w w3) := below_after HB2.out hb3
      clear hb3
      go_wp2_with fail
      refine (bare_no E w3 (HL.out.below HB3.out) HZ.out).mono ?_
      rintro e w4 ⟨rfl, hb4⟩
      have HB4 : Hid (Below w.heap.size w w4) := below_after HB3.out hb4
      clear hb4
      go_wp2_with fail
      refine (HCK.out w4 HB4.out).mono ?_
      rintro e w5 ⟨rfl, hb5⟩
      have HB5 : Hid (Below w.heap.size w w5) := below_after HB4.out hb5
      clear hb5
      go_wp2_with fail
      refine (bare_no E w5 (HL.out.below HB5.out) HZ.out).mono ?_
      rintro e w6 ⟨rfl, hb6⟩
      have HB6 : Hid (Below w.heap.size w w6) := below_after HB5.out hb6
      clear hb6
      go_wp2
      go_ret
      exact ⟨rfl, HB6.out⟩
end Go.Proofs.YthfbnkeonahmoaaDoor
