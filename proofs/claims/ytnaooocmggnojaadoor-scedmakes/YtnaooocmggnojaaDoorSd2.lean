/-
  sced.reach, together, Fits: what each returns. Conditions: the flows lie in memory; of reach and together besides: they may be.
-/
import Derived.Test.YtnaooocmggnojaaDoorSd1
namespace Go.Proofs.YtnaooocmggnojaaDoor
open Go.RowKit Go.Extern.Stop Go.Stop Go.Extern

/-- A flow that may be. -/
structure FOk (f : Flw) (long : Nat) : Prop where
  cv : okC f.m f.p
  ln : f.n = long
  lt : f.n < f.m
  come : ∀ t, t < f.n → 0 ≤ f.c t ∧ f.c t ≤ 100 ∧ tot f.c (t + 1) ≤ 100
/-- Flows that may be. -/
structure FsOk (m : Nat) (F : Nat → Flw) : Prop where
  lo : 1 ≤ m
  hi : m ≤ 8
  ok : ∀ i, i < m → FOk (F i) (F 0).n
theorem flowE_zero {f : Flw} {long : Nat} : flowE f long = 0 ↔ FOk f long := by
  unfold flowE
  constructor
  · intro h
    split at h
    · rename_i h0
      split at h
      · rename_i h1
        split at h
        · omega
        · exact ⟨curveE_zero.1 h0, h1, by omega, fun t ht => cellE_zero.1 ((fst0_zero f.n).1 h t ht)⟩
      · omega
    · rename_i h0; exact absurd h h0
  · intro h
    have := h.lt
    have := h.ln
    rw [if_pos (curveE_zero.2 h.cv), if_pos h.ln, if_neg (by omega)]
    exact (fst0_zero f.n).2 fun t ht => cellE_zero.2 (h.come t ht)
theorem scedE_zero {m : Nat} {F : Nat → Flw} : scedE m F = 0 ↔ FsOk m F := by
  unfold scedE
  constructor
  · intro h
    split at h
    · omega
    · exact ⟨by omega, by omega, fun i hi => flowE_zero.1 ((fst0_zero m).1 h i hi)⟩
  · intro h
    have := h.lo
    have := h.hi
    rw [if_neg (by omega)]
    exact (fst0_zero m).2 fun i hi => flowE_zero.2 (h.ok i hi)

/-- As far as all promises go. -/
def rch (F : Nat → Flw) : Nat → Nat
  | 0 => (F 0).m
  | k + 1 => min (rch F k) (F k).m
theorem rch_le {F : Nat → Flw} : ∀ k i, i < k → rch F k ≤ (F i).m := by
  intro k
  induction k with
  | zero => intro i hi; omega
  | succ k ih =>
    intro i hi
    simp only [rch]
    by_cases e : i = k
    · subst e; omega
    · have := ih i (by omega); omega
theorem le_rch {F : Nat → Flw} {T : Nat} : ∀ k, T ≤ (F 0).m → (∀ i, i < k → T ≤ (F i).m) → T ≤ rch F k := by
  intro k
  induction k with
  | zero => intro h _; exact h
  | succ k ih =>
    intro h0 h
    have := ih h0 (fun i hi => h i (by omega))
    have := h k (by omega)
    simp only [rch]
    omega
set_option maxHeartbeats 1000000 in
theorem sreach_any (b off cap m : Nat) (F : Nat → Flw) (w : World) (hm : m ≤ maxLen) (h0 : 0 < m) (hF : FlsAt w b off m F) :
    Calls Tryd.prog 17 #[.slice (some ⟨b, off, none⟩) m cap] w fun e w' => e = .returned (.int .i64 (rch F m)) ∧ Below w.heap.size w w' := by
  unfold maxLen at hm
  have HF : Hid (FlsAt w b off m F) := hF
  obtain ⟨_, d1, hd⟩ := hF 0 h0
  have hml := hd.lm
  unfold maxLen at hml
  simp only [Nat.zero_mul, Nat.add_zero] at d1
  have HR0 : Hid ((F 0).m = rch F 0) := rfl
  rw [HR0.out] at d1
  clear hF hd
  go_enter Tryd.func17, Tryd.ntmps17
  go_wp2
  go_loopw [3, 13] (fun s i wr => ∃ k : Nat, k ≤ m ∧ i = .int .i64 k ∧ s = .int .i64 (rch F k) ∧ Below w.heap.size w wr) (fun _ i _ => m - (intOf i).toNat)
  case atStart => exact ⟨0, Nat.zero_le _, rfl, rfl, Below.refl _ _⟩
  case round =>
    obtain ⟨k, hk, rfl, rfl, hbel⟩ := hrel
    have HB : Hid (Below w.heap.size w wr) := hbel
    clear hbel
    by_cases hlt : k < m
    · obtain ⟨c0, c1, hw0⟩ := HF.out.below HB.out k hlt
      have hsz : b < wr.heap.size := World.block_lt_of_cell? wr _ c0
      have hl := hw0.lm
      unfold maxLen at hl
      clear hw0
      have HS : Hid (rch F (k + 1) = min (rch F k) (F k).m) := rfl
      generalize F k = f at *
      obtain ⟨x, cx, n, c, y, cy, mm, p⟩ := f
      simp only at c0 c1 hl HS
      by_cases hq : mm < rch F k
      · have hq' : ((mm : Nat) : Int) < (rch F k : Int) := by omega
        have HS' : Hid (rch F (k + 1) = mm) := by show _ = _; rw [HS.out]; omega
        go_wp2
        all_goals
          go_roundw
          case rel => exact ⟨k + 1, by omega, by go_num, by rw [HS'.out], (by repeat' (first | with_reducible exact HB.out | with_reducible refine Below.drew ?_ | with_reducible refine below_alloc_ ?_ _))⟩
          case measure => simp [intOf]; omega
      · have hq' : ¬ ((mm : Nat) : Int) < (rch F k : Int) := by omega
        have HS' : Hid (rch F (k + 1) = rch F k) := by show _ = _; rw [HS.out]; omega
        go_wp2
        all_goals
          go_roundw
          case rel => exact ⟨k + 1, by omega, by go_num, by rw [HS'.out], (by repeat' (first | with_reducible exact HB.out | with_reducible refine Below.drew ?_ | with_reducible refine below_alloc_ ?_ _))⟩
          case measure => simp [intOf]; omega
    · obtain rfl : k = m := by omega
      go_wp2
      go_ret
      exact ⟨rfl, HB.out⟩

set_option maxHeartbeats 1000000 in
theorem together_any (b off cap m T : Nat) (F : Nat → Flw) (w : World) (hF : FlsAt w b off m F) (h : FsOk m F) (hT : T < rch F m) :
    Calls Tryd.prog 18 #[.slice (some ⟨b, off, none⟩) m cap, .int .i64 T] w fun e w' => e = .returned (.int .i64 (tot (fun i => (F i).p T) m)) ∧ Below w.heap.size w w' := by
  have HF : Hid (FlsAt w b off m F) := hF
  have hm8 := h.hi
  have HT : Hid (∀ i, i < m → T < (F i).m ∧ 0 ≤ (F i).p T ∧ (F i).p T ≤ 1000000000000 ∧ T < 201) := fun i hi => by
    have h1 := rch_le (F := F) m i hi
    have h2 := (h.ok i hi).cv
    have h3 := h2.low T (by omega)
    have h4 := h2.top T (by omega)
    have h5 := h2.len
    exact ⟨by omega, h3, h4, by omega⟩
  have HTB : Hid (∀ k, k ≤ m → 0 ≤ tot (fun i => (F i).p T) k ∧ tot (fun i => (F i).p T) k ≤ (k : Int) * 1000000000000) := fun k hk => tot_bd (c := fun i => (F i).p T) (n := m) (B := 1000000000000) (fun i hi => ⟨(HT.out i hi).2.1, (HT.out i hi).2.2.1⟩) k hk
  clear hF h hT
  go_enter Tryd.func18, Tryd.ntmps18
  go_wp2
  go_loopw [5, 10] (fun s i wr => ∃ k : Nat, k ≤ m ∧ i = .int .i64 k ∧ s = .int .i64 (tot (fun i => (F i).p T) k) ∧ Below w.heap.size w wr) (fun _ i _ => m - (intOf i).toNat)
  case atStart => exact ⟨0, Nat.zero_le _, rfl, rfl, Below.refl _ _⟩
  case round =>
    obtain ⟨k, hk, rfl, rfl, hbel⟩ := hrel
    have HB : Hid (Below w.heap.size w wr) := hbel
    clear hbel
    by_cases hlt : k < m
    · obtain ⟨c0, c1, hw0⟩ := HF.out.below HB.out k hlt
      have hsz : b < wr.heap.size := World.block_lt_of_cell? wr _ c0
      obtain ⟨t1, t2, t3, t4⟩ := HT.out k hlt
      have hl := hw0.lm
      unfold maxLen at hl
      obtain ⟨b1, o1, hy⟩ := hw0.rp.some (by omega)
      have hrp := hw0.rp
      rw [hy] at c1 hrp
      have c2 := hrp.at t1
      have hs2 : b1 < wr.heap.size := World.block_lt_of_cell? wr _ c2
      have e0 : IntKind.i64.wrap (tot (fun i => (F i).p T) k + (F k).p T) = tot (fun i => (F i).p T) (k + 1) := by
        obtain ⟨g1, g2⟩ := HTB.out k hk
        rw [IntKind.wrap_i64]
        simp only [tot]
        omega
      clear hw0 hrp hy
      obtain ⟨s1, HS1⟩ : ∃ s1, Hid (tot (fun i => (F i).p T) (k + 1) = s1) := ⟨_, rfl⟩
      rw [HS1.out] at e0
      generalize F k = f at *
      obtain ⟨x, cx, n, c, y, cy, mm, p⟩ := f
      simp only at c0 c1 c2 e0 t1 t2 t3 hl
      go_wp2
      go_roundw
      case rel => exact ⟨k + 1, by omega, by go_num, by rw [HS1.out], (by repeat' (first | with_reducible exact HB.out | with_reducible refine Below.drew ?_ | with_reducible refine below_alloc_ ?_ _))⟩
      case measure => simp [intOf]; omega
    · obtain rfl : k = m := by omega
      go_wp2
      go_ret
      exact ⟨rfl, HB.out⟩

/-- All promises together are no more than a cell a tick. -/
def fitsQ (m : Nat) (F : Nat → Flw) : Prop := ∀ t, t < rch F m → tot (fun i => (F i).p t) m ≤ t
open Classical in
noncomputable def fitsB (m : Nat) (F : Nat → Flw) : Bool := decide (fitsQ m F)
theorem fitsB_yes {m : Nat} {F : Nat → Flw} (h : fitsQ m F) : fitsB m F = true := by unfold fitsB; simpa using h
theorem fitsB_no {m : Nat} {F : Nat → Flw} (h : ¬ fitsQ m F) : fitsB m F = false := by unfold fitsB; simpa using h
theorem sfits_no (x : Option Addr) (cap m : Nat) (E : Int) (w : World) (hE : E ≠ 0)
    (hc : Calls Tryd.prog 9 #[.slice x m cap] w fun e w' => e = .returned (errV E) ∧ Below w.heap.size w w') :
    Calls Tryd.prog 7 #[.slice x m cap] w fun e w' => e = .returned (.tuple #[.bool false, errV E]) ∧ Below w.heap.size w w' := by
  rw [errV_not hE] at hc ⊢
  have HC : Hid (Calls Tryd.prog 9 #[.slice x m cap] w fun e w' => e = .returned (.iface 26 (.int .i64 E)) ∧ Below w.heap.size w w') := hc
  clear hc hE
  go_enter Tryd.func7, Tryd.ntmps7
  go_wp2_with fail
  refine HC.out.mono ?_
  rintro e w' ⟨rfl, hb⟩
  go_wp2
  go_ret2
  exact ⟨rfl, hb⟩
set_option maxHeartbeats 1000000 in
theorem sfits_any (b off cap m : Nat) (F : Nat → Flw) (w : World) (hF : FlsAt w b off m F) (h : FsOk m F) :
    Calls Tryd.prog 7 #[.slice (some ⟨b, off, none⟩) m cap] w fun e w' => e = .returned (.tuple #[.bool (fitsB m F), .nilIface]) ∧ Below w.heap.size w w' := by
  have HF : Hid (FlsAt w b off m F) := hF
  have H : Hid (FsOk m F) := h
  have hm8 := h.hi
  have hm1 := h.lo
  have hml : m ≤ maxLen := by unfold maxLen; omega
  have HC : Hid (Calls Tryd.prog 9 #[.slice (some ⟨b, off, none⟩) m cap] w fun e w' => e = .returned .nilIface ∧ Below w.heap.size w w') := by
    have := scheck_any b off cap m F w hml hF
    rw [scedE_zero.2 h, errV_zero] at this
    exact this
  have HRB : Hid (rch F m ≤ 201) := by
    have h1 := rch_le (F := F) m 0 (by omega)
    have h2 := (h.ok 0 (by omega)).cv.len
    show _ ≤ _
    omega
  clear hF h
  go_enter Tryd.func7, Tryd.ntmps7
  go_wp2_with fail
  refine HC.out.mono ?_
  rintro e w1 ⟨rfl, hb1⟩
  have HB1 : Hid (Below w.heap.size w w1) := hb1
  clear hb1
  go_wp2_with fail
  refine (sreach_any b off cap m F w1 hml (by omega) (HF.out.below HB1.out)).mono ?_
  rintro e w2 ⟨rfl, hb2⟩
  have HB2 : Hid (Below w.heap.size w w2) := below_after HB1.out hb2
  clear hb2
  have hrb := HRB.out
  go_wp2
  go_loopw [13] (fun i wr => ∃ k : Nat, k ≤ rch F m ∧ i = .int .i64 k ∧ Hid (∀ t, t < k → tot (fun i => (F i).p t) m ≤ t) ∧ Below w.heap.size w wr) (fun i _ => rch F m - (intOf i).toNat)
  case atStart => exact ⟨0, Nat.zero_le _, rfl, fun t ht => by omega, HB2.out⟩
  case round =>
    obtain ⟨k, hk, rfl, HQ, hbel⟩ := hrel
    have HB : Hid (Below w.heap.size w wr) := hbel
    clear hbel
    by_cases hlt : k < rch F m
    · by_cases hq : (k : Int) < tot (fun i => (F i).p k) m
      · have HN : Hid (fitsB m F = false) := fitsB_no fun hf => by have := hf k hlt; omega
        go_wp2_with fail
        refine (together_any b off cap m k F wr (HF.out.below HB.out) H.out hlt).mono ?_
        rintro e w3 ⟨rfl, hb3⟩
        go_wp2
        go_ret2
        exact ⟨by rw [HN.out]; rfl, below_after HB.out hb3⟩
      · have HQ' : Hid (∀ t, t < k + 1 → tot (fun i => (F i).p t) m ≤ t) := fun t ht => by
          by_cases e : t = k
          · subst e; omega
          · exact HQ.out t (by omega)
        go_wp2_with fail
        refine (together_any b off cap m k F wr (HF.out.below HB.out) H.out hlt).mono ?_
        rintro e w3 ⟨rfl, hb3⟩
        go_wp2
        go_roundw
        case rel => exact ⟨k + 1, by omega, by go_num, HQ', below_after HB.out hb3⟩
        case measure => simp [intOf]; omega
    · obtain rfl : k = rch F m := by omega
      have HN : Hid (fitsB m F = true) := fitsB_yes HQ.out
      go_wp2
      go_ret2
      exact ⟨by rw [HN.out]; rfl, HB.out⟩
end Go.Proofs.YtnaooocmggnojaaDoor
