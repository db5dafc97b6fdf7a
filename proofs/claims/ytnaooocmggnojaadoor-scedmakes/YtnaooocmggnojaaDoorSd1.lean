/-
  sced.checkCells, checkFlow, Check: what each returns at any flows. Conditions: the flows lie in memory, and no slice is longer than memory.
-/
import Derived.Test.YtnaooocmggnojaaDoorCv5
import Derived.Test.YtnaooocmggnojaaDoorScM
import Derived.Test.YtnaooocmggnojaaDoorSg
namespace Go.Proofs.YtnaooocmggnojaaDoor
open Go.RowKit Go.Extern.Stop Go.Stop Go.Extern

/-- A flow: what comes, and what is promised. -/
structure Flw where
  x : Option Addr
  cx : Nat
  n : Nat
  c : Nat → Int
  y : Option Addr
  cy : Nat
  m : Nat
  p : Nat → Int
structure FlwAt (w : World) (f : Flw) : Prop where
  rc : Row w f.x f.n f.c
  rp : Row w f.y f.m f.p
  ln : f.n ≤ maxLen
  lm : f.m ≤ maxLen
theorem FlwAt.below {w w' : World} {f : Flw} (h : FlwAt w f) (hb : Below w.heap.size w w') : FlwAt w' f := ⟨h.rc.below hb, h.rp.below hb, h.ln, h.lm⟩
/-- Flows one behind the other. -/
def FlsAt (w : World) (b off m : Nat) (F : Nat → Flw) : Prop := ∀ i, i < m → w.cell? ⟨b, off + i * 2, none⟩ = some (.slice (F i).x (F i).n (F i).cx) ∧ w.cell? ⟨b, off + i * 2 + 1, none⟩ = some (.slice (F i).y (F i).m (F i).cy) ∧ FlwAt w (F i)
theorem FlsAt.below {w w' : World} {b off m : Nat} {F : Nat → Flw} (h : FlsAt w b off m F) (hb : Below w.heap.size w w') : FlsAt w' b off m F := fun i hi => by
  obtain ⟨h0, h1, h2⟩ := h i hi
  exact ⟨(hb.cell (World.block_lt_of_cell? w _ h0)).trans h0, (hb.cell (World.block_lt_of_cell? w _ h1)).trans h1, h2.below hb⟩

/-! ### What is refused -/
def cellE (c : Nat → Int) (i : Nat) : Int := if c i < 0 ∨ 100 < c i then 2 else if 100 < tot c (i + 1) then 4 else 0
def cellsE (n : Nat) (c : Nat → Int) : Int := fst0 (cellE c) n
def flowE (f : Flw) (long : Nat) : Int := if curveE f.m f.p = 0 then (if f.n = long then (if f.m ≤ long then 2 else cellsE f.n f.c) else 3) else curveE f.m f.p
def scedE (m : Nat) (F : Nat → Flw) : Int := if m < 1 ∨ 8 < m then 4 else fst0 (fun i => flowE (F i) (F 0).n) m
theorem cellE_zero {c : Nat → Int} {i : Nat} : cellE c i = 0 ↔ 0 ≤ c i ∧ c i ≤ 100 ∧ tot c (i + 1) ≤ 100 := by
  unfold cellE
  constructor
  · intro h
    split at h
    · omega
    · split at h <;> omega
  · intro h
    rw [if_neg (by omega), if_neg (by omega)]

set_option maxHeartbeats 1000000 in
theorem cells_any (x : Option Addr) (cap n : Nat) (c : Nat → Int) (w : World) (hm : n ≤ maxLen) (hR : Row w x n c) :
    Calls Tryd.prog 28 #[.slice x n cap] w fun e w' => e = .returned (errV (cellsE n c)) ∧ w' = w := by
  unfold maxLen at hm
  have HR : Hid (Row w x n c) := hR
  clear hR
  go_enter Tryd.func28, Tryd.ntmps28
  go_wp2
  go_loop [3, 8] (fun s i => ∃ k : Nat, k ≤ n ∧ i = .int .i64 k ∧ s = .int .i64 (tot c k) ∧ Hid (0 ≤ tot c k ∧ tot c k ≤ 100) ∧ Hid (fst0 (cellE c) k = 0)) (fun _ i => n - (intOf i).toNat)
  case atStart => exact ⟨0, Nat.zero_le _, rfl, rfl, ⟨by simp [tot], by simp [tot]⟩, rfl⟩
  case round =>
    obtain ⟨k, hk, rfl, rfl, HT, HF⟩ := hrel
    by_cases hlt : k < n
    · obtain ⟨b, off, rfl⟩ := HR.out.some (by omega)
      have c0 := HR.out.at hlt
      have ht0 := HT.out.1
      have ht1 := HT.out.2
      by_cases h3 : c k < 0
      · have HG : Hid (cellsE n c = 2) := by
          have hc : cellE c k = 2 := by unfold cellE; rw [if_pos (Or.inl h3)]
          show cellsE n c = _
          rw [cellsE, fst0_at HF.out (by rw [hc]; decide) hlt, hc]
        go_wp2
        go_ret
        exact ⟨by rw [HG.out]; rfl, rfl⟩
      by_cases h4 : 100 < c k
      · have HG : Hid (cellsE n c = 2) := by
          have hc : cellE c k = 2 := by unfold cellE; rw [if_pos (Or.inr h4)]
          show cellsE n c = _
          rw [cellsE, fst0_at HF.out (by rw [hc]; decide) hlt, hc]
        go_wp2
        go_ret
        exact ⟨by rw [HG.out]; rfl, rfl⟩
      have e0 : IntKind.i64.wrap (tot c k + c k) = tot c (k + 1) := by rw [IntKind.wrap_i64]; simp only [tot]; omega
      have HS : Hid (tot c (k + 1) = tot c k + c k) := rfl
      by_cases h5 : 100 < tot c (k + 1)
      · have HG : Hid (cellsE n c = 4) := by
          have hc : cellE c k = 4 := by unfold cellE; rw [if_neg (by omega), if_pos h5]
          show cellsE n c = _
          rw [cellsE, fst0_at HF.out (by rw [hc]; decide) hlt, hc]
        go_wp2
        go_ret
        exact ⟨by rw [HG.out]; rfl, rfl⟩
      have HG : Hid (fst0 (cellE c) (k + 1) = 0) := fst0_next HF.out (by unfold cellE; rw [if_neg (by omega), if_neg h5])
      have HT' : Hid (0 ≤ tot c (k + 1) ∧ tot c (k + 1) ≤ 100) := by have := HS.out; constructor <;> omega
      go_wp2
      go_round
      case rel => exact ⟨k + 1, by omega, by go_num, rfl, HT', HG⟩
      case measure => simp [intOf]; omega
    · obtain rfl : k = n := by omega
      go_wp2
      go_ret
      exact ⟨by rw [cellsE, HF.out]; rfl, rfl⟩

set_option maxHeartbeats 1000000 in
theorem flow_any (f : Flw) (long : Nat) (w : World) (h : FlwAt w f) :
    Calls Tryd.prog 21 #[.agg #[.slice f.x f.n f.cx, .slice f.y f.m f.cy], .int .i64 long] w fun e w' => e = .returned (errV (flowE f long)) ∧ Below w.heap.size w w' := by
  obtain ⟨x, cx, n, c, y, cy, m, p⟩ := f
  obtain ⟨rc, rp, ln, lm⟩ := h
  simp only at rc rp ln lm
  have HRC : Hid (Row w x n c) := rc
  have HRP : Hid (Row w y m p) := rp
  have HLN : Hid (n ≤ maxLen) := ln
  have HLM : Hid (m ≤ maxLen) := lm
  clear rc rp ln lm
  have HB : Hid (Below w.heap.size w (w.alloc (.cells #[.slice x n cx, .slice y m cy] 51))) := (Below.refl _ _).alloc (Nat.le_refl _) _
  by_cases hok : okC m p
  · have hz : curveE m p = 0 := curveE_zero.2 hok
    have HOK : Hid (okC m p) := hok
    clear hok
    by_cases h1 : n = long
    · subst h1
      by_cases h2 : m ≤ n
      · have HE : Hid (flowE ⟨x, cx, n, c, y, cy, m, p⟩ n = 2) := by show flowE _ _ = _; unfold flowE; simp [hz, h2]
        clear hz
        go_enter Tryd.func21, Tryd.ntmps21
        go_wp2_with fail
        refine (cvcheck_ok y cy m p _ (HRP.out.below HB.out) HOK.out).mono ?_
        rintro e w' ⟨rfl, rfl⟩
        go_wp2
        go_ret
        exact ⟨by rw [HE.out]; rfl, HB.out⟩
      · have HE : Hid (flowE ⟨x, cx, n, c, y, cy, m, p⟩ n = cellsE n c) := by show flowE _ _ = _; unfold flowE; simp [hz, h2]
        clear hz
        go_enter Tryd.func21, Tryd.ntmps21
        go_wp2_with fail
        refine (cvcheck_ok y cy m p _ (HRP.out.below HB.out) HOK.out).mono ?_
        rintro e w' ⟨rfl, rfl⟩
        go_wp2_with fail
        refine (cells_any x cx n c _ HLN.out (HRC.out.below HB.out)).mono ?_
        rintro e w' ⟨rfl, rfl⟩
        go_wp2
        go_ret
        exact ⟨by rw [HE.out]; rfl, HB.out⟩
    · have HE : Hid (flowE ⟨x, cx, n, c, y, cy, m, p⟩ long = 3) := by show flowE _ _ = _; unfold flowE; simp [hz, h1]
      clear hz
      go_enter Tryd.func21, Tryd.ntmps21
      go_wp2_with fail
      refine (cvcheck_ok y cy m p _ (HRP.out.below HB.out) HOK.out).mono ?_
      rintro e w' ⟨rfl, rfl⟩
      go_wp2
      go_ret
      exact ⟨by rw [HE.out]; rfl, HB.out⟩
  · have hz : curveE m p ≠ 0 := fun e => hok (curveE_zero.1 e)
    have HE : Hid (flowE ⟨x, cx, n, c, y, cy, m, p⟩ long = curveE m p) := by show flowE _ _ = _; unfold flowE; simp [hz]
    have HV : Hid (errV (curveE m p) = .iface 26 (.int .i64 (curveE m p))) := errV_not hz
    have HOK : Hid (¬ okC m p) := hok
    clear hz hok
    go_enter Tryd.func21, Tryd.ntmps21
    go_wp2_with fail
    refine (cvcheck_no y cy m p _ HLM.out (HRP.out.below HB.out) HOK.out).mono ?_
    rintro e w' ⟨rfl, rfl⟩
    go_wp2
    go_ret
    exact ⟨by rw [HE.out, HV.out]; rfl, HB.out⟩

/-- None: too few or too many. -/
theorem scheck_long (x : Option Addr) (cap m : Nat) (F : Nat → Flw) (w : World) (hm : m ≤ maxLen) (h : m < 1 ∨ 8 < m) :
    Calls Tryd.prog 9 #[.slice x m cap] w fun e w' => e = .returned (errV (scedE m F)) ∧ Below w.heap.size w w' := by
  rw [show scedE m F = 4 from if_pos h]
  unfold maxLen at hm
  by_cases h0 : m < 1
  · clear h
    go_enter Tryd.func9, Tryd.ntmps9
    go_wp2
    go_ret
    exact ⟨rfl, Below.refl _ _⟩
  · have h1 : 8 < m := by omega
    clear h
    go_enter Tryd.func9, Tryd.ntmps9
    go_wp2
    go_ret
    exact ⟨rfl, Below.refl _ _⟩
theorem below_after {a W w1 : World} (h : Below a.heap.size a W) (hb : Below W.heap.size W w1) : Below a.heap.size a w1 := h.trans (hb.mono h.size)
set_option maxHeartbeats 2000000 in
theorem scheck_any (b off cap m : Nat) (F : Nat → Flw) (w : World) (hm : m ≤ maxLen) (hF : FlsAt w b off m F) :
    Calls Tryd.prog 9 #[.slice (some ⟨b, off, none⟩) m cap] w fun e w' => e = .returned (errV (scedE m F)) ∧ Below w.heap.size w w' := by
  by_cases h : m < 1 ∨ 8 < m
  · exact scheck_long _ cap m F w hm h
  have h1 : ¬ m < 1 := by omega
  have h2 : ¬ 8 < m := by omega
  obtain ⟨long, HL⟩ : ∃ l, Hid (l = (F 0).n) := ⟨_, rfl⟩
  have HE : Hid (scedE m F = fst0 (fun i => flowE (F i) long) m) := by unfold scedE; rw [if_neg h, HL.out]; exact rfl
  have HF : Hid (FlsAt w b off m F) := hF
  clear h hm hF
  go_enter Tryd.func9, Tryd.ntmps9
  go_wp2
  go_loopw [17] (fun i wr => ∃ k : Nat, k ≤ m ∧ i = .int .i64 k ∧ Hid (fst0 (fun i => flowE (F i) long) k = 0) ∧ Below w.heap.size w wr) (fun i _ => m - (intOf i).toNat)
  case atStart => exact ⟨0, Nat.zero_le _, rfl, rfl, Below.refl _ _⟩
  case round =>
    obtain ⟨k, hk, rfl, HZ, hbel⟩ := hrel
    have HB : Hid (Below w.heap.size w wr) := hbel
    clear hbel
    by_cases hlt : k < m
    · obtain ⟨c0, c1, hw0⟩ := HF.out.below HB.out k hlt
      obtain ⟨d0, _, _⟩ := HF.out.below HB.out 0 (by omega)
      simp only [Nat.zero_mul, Nat.add_zero] at d0
      rw [← HL.out] at d0
      have hsz : b < wr.heap.size := World.block_lt_of_cell? wr _ c0
      have HW : Hid (FlwAt wr (F k)) := hw0
      have HFK : Hid (fst0 (fun i => flowE (F i) long) (k + 1) = flowE (F k) long) := by
        show fst0 _ (k + 1) = _
        simp only [fst0]
        rw [if_pos HZ.out]
      clear hw0
      generalize F k = f at *
      obtain ⟨x, cx, n, c, y, cy, mm, p⟩ := f
      simp only at c0 c1
      generalize (F 0).x = x0 at *
      generalize (F 0).cx = cx0 at *
      obtain ⟨ee, HEE⟩ : ∃ ee, Hid (flowE ⟨x, cx, n, c, y, cy, mm, p⟩ long = ee) := ⟨_, rfl⟩
      by_cases hz : ee = 0
      · subst hz
        go_wp2
        go_region_with (go_at_call 21; refine (flow_any ⟨x, cx, n, c, y, cy, mm, p⟩ long _ (HW.out.below (by repeat' (first | with_reducible exact Below.refl _ _ | with_reducible refine Below.drew ?_ | with_reducible refine below_alloc_ ?_ _)))).mono ?_; rw [HEE.out, errV_zero]; rintro e w1 ⟨rfl, hb1⟩)
        all_goals
          go_wp2
          go_roundw
          case rel => exact ⟨k + 1, by omega, by go_num, by show _ = _; rw [HFK.out, HEE.out], below_after (by repeat' (first | with_reducible exact HB.out | with_reducible refine Below.drew ?_ | with_reducible refine below_alloc_ ?_ _)) hb1⟩
          case measure => simp [intOf]; omega
      · have HV : Hid (errV ee = .iface 26 (.int .i64 ee)) := errV_not hz
        have HG : Hid (scedE m F = ee) := by
          show scedE m F = _
          rw [HE.out, ← HEE.out, ← HFK.out]
          exact fst0_stay (by rw [HFK.out, HEE.out]; exact hz) m (by omega)
        clear hz
        go_wp2
        go_region_with (go_at_call 21; refine (flow_any ⟨x, cx, n, c, y, cy, mm, p⟩ long _ (HW.out.below (by repeat' (first | with_reducible exact Below.refl _ _ | with_reducible refine Below.drew ?_ | with_reducible refine below_alloc_ ?_ _)))).mono ?_; rw [HEE.out, HV.out]; rintro e w1 ⟨rfl, hb1⟩)
        all_goals
          go_wp2
          go_ret
          exact ⟨by rw [HG.out, HV.out]; rfl, below_after (by repeat' (first | with_reducible exact HB.out | with_reducible refine Below.drew ?_ | with_reducible refine below_alloc_ ?_ _)) hb1⟩
    · obtain rfl : k = m := by omega
      go_wp2
      go_ret
      exact ⟨by rw [HE.out, HZ.out]; rfl, HB.out⟩
end Go.Proofs.YtnaooocmggnojaaDoor
