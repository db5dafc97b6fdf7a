/-
  curve.totals, Serve, rowsFit, Fits: what each returns at every argument, and that nothing that was there before is otherwise. Conditions: the numbers lie in memory, and a slice is no longer than its room.
-/
import Derived.Test.YtnaooocmggnojaaDoorCv4
namespace Go.Proofs.YtnaooocmggnojaaDoor
open Go.RowKit Go.Extern.Stop Go.Stop Go.Extern

/-- What may come. -/
def okAmt (v : Int) : Prop := 0 ≤ v ∧ v ≤ 1000000
def amtE (v : Int) : Int := if v < 0 ∨ 1000000 < v then 2 else 0
theorem amtE_zero {v : Int} : amtE v = 0 ↔ okAmt v := by
  unfold amtE okAmt
  constructor
  · intro h; split at h
    · simp at h
    · omega
  · intro h; rw [if_neg (by omega)]
theorem amount_any (n : Int) (w : World) : Calls Tryd.prog 45 #[.int .i64 n] w fun e w' => e = .returned (errV (amtE n)) ∧ w' = w := by
  by_cases h : n < 0 ∨ 1000000 < n
  · rw [show amtE n = 2 from if_pos h]; exact amount_no n w h
  · rw [show amtE n = 0 from if_neg h]; exact amount_yes n w (by omega) (by omega)

theorem owns_one {B : Nat} (w : World) (t : TypeId) (v : Value) (hb : B ≤ w.heap.size) : (w.alloc (.cells #[v] t)).ownsRow B t 1 (.slice (some ⟨w.heap.size, 0, none⟩) 1 1) 1 [v] :=
  ⟨by simp, .inr ⟨w.heap.size, 1, #[v], rfl, hb, heap_alloc_new w _, Nat.le_refl _, by unfold maxLen; omega, by simp, by simp⟩⟩

set_option maxRecDepth 20000 in
set_option maxHeartbeats 2000000 in
theorem totals_any (x : Option Addr) (cap n : Nat) (c : Nat → Int) (w : World) (hx : Row w x n c) (b0 : n ≤ 1000) :
    Calls Tryd.prog 37 #[.slice x n cap] w fun e w' => ((fst0 (fun i => amtE (c i)) n = 0 ∧ ∃ y cy, e = .returned (.tuple #[.slice y (n + 1) cy, .nilIface]) ∧ Row w' y (n + 1) (tot c)) ∨ (fst0 (fun i => amtE (c i)) n ≠ 0 ∧ e = .returned (.tuple #[.slice none 0 0, .iface 26 (.int .i64 2)]))) ∧ Below w.heap.size w w' := by
  obtain ⟨i0, hi, hz0, hz1, hz2⟩ := info_parts infoInt
  have HX : Hid (Row w x n c) := hx
  clear hx
  go_enter Tryd.func37, Tryd.ntmps37
  go_wp2
  go_loopw [4, 5, 13] (fun s o i wr => ∃ k : Nat, k ≤ n ∧ i = .int .i64 k ∧ s = .int .i64 (tot c k) ∧ wr.ownsRow w.heap.size 3 1 o (k + 1) (vals (tot c) (k + 1)) ∧ Hid (∀ i, i < k → okAmt (c i)) ∧ Below w.heap.size w wr) (fun _ _ i _ => n - (intOf i).toNat)
  case atStart =>
    exact ⟨0, Nat.zero_le _, rfl, rfl, owns_one w _ _ (Nat.le_refl _), fun i hi => by omega, (Below.refl _ _).alloc (Nat.le_refl _) _⟩
  case round =>
    obtain ⟨k, hk, rfl, rfl, hown, HA, hbel⟩ := hrel
    by_cases hlt : k < n
    · obtain ⟨b, off, rfl⟩ := HX.out.some (by omega)
      have c0 := (HX.out.below hbel).at hlt
      have HO : Hid (wr.ownsRow w.heap.size 3 1 u5 (k + 1) (vals (tot c) (k + 1))) := hown
      have HB : Hid (Below w.heap.size w wr) := hbel
      clear hown hbel
      by_cases hok : okAmt (c k)
      · have hA' : ∀ i, i < k + 1 → okAmt (c i) := fun i hi => by
          by_cases e : i = k
          · subst e; exact hok
          · exact HA.out i (by omega)
        have HA' : Hid (∀ i, i < k + 1 → okAmt (c i)) := hA'
        have bt := tot_bd (c := c) (n := k) (B := 1000000) (fun i hi => HA.out i hi) k (Nat.le_refl _)
        have bt1 : tot c k ≤ 1000000000 := by omega
        have bt0 := bt.1
        have HC := amount_yes (c k) wr hok.1 hok.2
        have HC' : Hid (Calls Tryd.prog 45 #[.int .i64 (c k)] wr fun e w' => e = .returned .nilIface ∧ w' = wr) := HC
        have e0 : IntKind.i64.wrap (tot c k + c k) = tot c (k + 1) := by rw [IntKind.wrap_i64]; have := hok.1; have := hok.2; simp only [tot]; omega
        clear HC hA' bt hok bt1 bt0
        go_wp2_with fail
        refine HC'.out.mono ?_
        rintro e w' ⟨rfl, rfl⟩
        go_wp2_with (at_builtin; refine wpList_append_own _ rfl _ _ 49 rfl w.heap.size 3 i0 (.int .i64 0) 1 8 Tryd.underlying49 hi hz0 hz1 hz2 rfl (by decide) _ _ _ rfl (HO.out.alloc _) ⟨w'.heap.size, 0, none⟩ 1 1 [.int .i64 (tot c (k + 1))] rfl rfl (cell_new1 _ _ _) (by simp [Value.oneCell']) (by unfold maxLen; omega) (by omega) (by simp; have := HB.out.size; omega) ?_; intro v' w4 hown4 hgrow4 _)
        go_roundw
        case rel =>
          have hb4 : Below w.heap.size w w4 := (HB.out.alloc HB.out.size _).grown hgrow4 (by simp; have := HB.out.size; omega) (fun j e => (HO.out.lt j e).1)
          exact ⟨k + 1, by omega, by go_num, rfl, by rw [vals_succ]; exact hown4, HA', hb4⟩
        case measure => simp [intOf]; omega
      · have HE : Hid (fst0 (fun i => amtE (c i)) n ≠ 0) := by
          show fst0 (fun i => amtE (c i)) n ≠ 0
          intro h
          exact hok (amtE_zero.1 ((fst0_zero n).1 h k hlt))
        have hn : c k < 0 ∨ 1000000 < c k := by unfold okAmt at hok; omega
        have HC := amount_no (c k) wr hn
        have HC' : Hid (Calls Tryd.prog 45 #[.int .i64 (c k)] wr fun e w' => e = .returned (.iface 26 (.int .i64 2)) ∧ w' = wr) := HC
        clear HC hok hn
        go_wp2_with fail
        refine HC'.out.mono ?_
        rintro e w' ⟨rfl, rfl⟩
        go_wp2
        go_ret2
        exact ⟨Or.inr ⟨HE.out, rfl⟩, HB.out⟩
    · obtain rfl : k = n := by omega
      have HO : Hid (wr.ownsRow w.heap.size 3 1 u5 (k + 1) (vals (tot c) (k + 1))) := hown
      have HB : Hid (Below w.heap.size w wr) := hbel
      clear hown hbel
      obtain ⟨y, cy, rfl, _, _, hrow⟩ := row_of_owns HO.out
      have HR : Hid (Row wr y (k + 1) (tot c)) := hrow
      clear hrow
      go_wp2
      go_ret2
      exact ⟨Or.inl ⟨(fst0_zero k).2 fun i hi => amtE_zero.2 (HA.out i hi), y, cy, rfl, HR.out⟩, HB.out⟩
theorem serve_no1 (x y : Option Addr) (cx cy n m : Nat) (g : Nat → Int) (w : World) (hm : m ≤ maxLen) (hy : Row w y m g) (h : ¬ okC m g) :
    Calls Tryd.prog 34 #[.slice x n cx, .slice y m cy] w fun e w' => e = .returned (.tuple #[.slice none 0 0, .iface 26 (.int .i64 (curveE m g))]) ∧ w' = w := by
  have HC : Hid (Calls Tryd.prog 27 #[.slice y m cy] w fun e w' => e = .returned (.iface 26 (.int .i64 (curveE m g))) ∧ w' = w) := cvcheck_no y cy m g w hm hy h
  clear hm hy h
  go_enter Tryd.func34, Tryd.ntmps34
  go_wp2_with fail
  refine HC.out.mono ?_
  rintro e w' ⟨rfl, rfl⟩
  go_wp2
  go_ret2
  exact ⟨rfl, rfl⟩
theorem serve_no2 (x y : Option Addr) (cx cy n m : Nat) (g : Nat → Int) (w : World) (hy : Row w y m g) (h : okC m g) (hlt : m < n) :
    Calls Tryd.prog 34 #[.slice x n cx, .slice y m cy] w fun e w' => e = .returned (.tuple #[.slice none 0 0, .iface 26 (.int .i64 4)]) ∧ w' = w := by
  have HC : Hid (Calls Tryd.prog 27 #[.slice y m cy] w fun e w' => e = .returned .nilIface ∧ w' = w) := cvcheck_ok y cy m g w hy h
  clear hy h
  go_enter Tryd.func34, Tryd.ntmps34
  go_wp2_with fail
  refine HC.out.mono ?_
  rintro e w' ⟨rfl, rfl⟩
  go_wp2
  go_ret2
  exact ⟨rfl, rfl⟩
set_option maxHeartbeats 1000000 in
theorem serve_any (x y : Option Addr) (cx cy n m : Nat) (c g : Nat → Int) (w : World) (hx : Row w x n c) (hy : Row w y m g) (h : okC m g) (hle : n ≤ m) :
    Calls Tryd.prog 34 #[.slice x n cx, .slice y m cy] w fun e w' => ((fst0 (fun i => amtE (c i)) n = 0 ∧ ∃ s, e = .returned (.tuple #[.slice (some ⟨s, 0, none⟩) n n, .nilIface]) ∧ Row w' (some ⟨s, 0, none⟩) n (conv (tot c) g)) ∨ (fst0 (fun i => amtE (c i)) n ≠ 0 ∧ e = .returned (.tuple #[.slice none 0 0, .iface 26 (.int .i64 2)]))) ∧ Below w.heap.size w w' := by
  have b1 := h.len
  have HC : Hid (Calls Tryd.prog 27 #[.slice y m cy] w fun e w' => e = .returned .nilIface ∧ w' = w) := cvcheck_ok y cy m g w hy h
  have HX : Hid (Row w x n c) := hx
  have HY : Hid (Row w y m g) := hy
  have H : Hid (okC m g) := h
  have hnl : ¬ m < n := by omega
  clear hy h hx
  go_enter Tryd.func34, Tryd.ntmps34
  go_wp2_with fail
  refine HC.out.mono ?_
  rintro e w' ⟨rfl, rfl⟩
  go_wp2_with fail
  refine (totals_any x cx n c w' HX.out (by omega)).mono ?_
  rintro e w1 ⟨⟨hz, z, cz, rfl, hrow⟩ | ⟨hz, rfl⟩, hb1⟩
  · have HR : Hid (Row w1 z (n + 1) (tot c)) := hrow
    have HZ : Hid (fst0 (fun i => amtE (c i)) n = 0) := hz
    clear hrow hz
    go_wp2_with fail
    refine (chain_any n z y cz cy (n + 1) m (tot c) g w1 (HR.out.take (by omega)) ((HY.out.below hb1).take (by omega)) ?_ (H.out.mild.take (by omega)) (by omega) (by omega) (by omega)).mono ?_
    · intro i hi
      have := tot_bd (c := c) (n := n) (B := 1000000) (fun i hi => amtE_zero.1 ((fst0_zero n).1 HZ.out i hi)) i (by omega)
      omega
    rintro e w2 ⟨s, rfl, hrow2, hb2⟩
    have HR2 : Hid (Row w2 (some ⟨s, 0, none⟩) n (conv (tot c) g)) := hrow2
    clear hrow2
    go_wp2
    go_ret2
    exact ⟨Or.inl ⟨HZ.out, s, rfl, HR2.out⟩, hb1.trans (hb2.mono hb1.size)⟩
  · have HZ : Hid (fst0 (fun i => amtE (c i)) n ≠ 0) := hz
    clear hz
    go_wp2
    go_ret2
    exact ⟨Or.inr ⟨HZ.out, rfl⟩, hb1⟩

end Go.Proofs.YtnaooocmggnojaaDoor
