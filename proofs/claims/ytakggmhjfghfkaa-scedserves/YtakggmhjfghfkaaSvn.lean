/-
  curve.draw, chain, Serve: what each makes lies in a block of its own. Conditions: the numbers lie in memory.
-/
import Derived.Test.YtakggmhjfghfkaaCv5
namespace Go.Proofs.Ytakggmhjfghfkaa
open Go.RowKit Go.Extern.Stop Go.Stop Go.Extern

set_option maxRecDepth 20000 in
set_option maxHeartbeats 2000000 in
theorem cvdraw_new (cf : Nat) (caps : Array Value) (n : Nat) (r : Nat → Int) (w : World) (b0 : n ≤ 1000) (hent : ∀ (args : Array Value) (W : World), (callFunc cf args).run Try.prog W = .ok (.enter cf args) W)
    (hstep : ∀ (k : Nat) (W : World), k < n → Below w.heap.size w W → Calls Try.prog cf (#[.int .i64 k] ++ caps) W fun e W' => e = .returned (.int .i64 (r k)) ∧ Below W.heap.size W W') :
    Calls Try.prog 24 #[.int .i64 n, .func (.func cf) #[] caps] w fun e w' => ∃ g, e = .returned (.slice (some ⟨g, 0, none⟩) n n) ∧ Row w' (some ⟨g, 0, none⟩) n r ∧ Below w.heap.size w w' ∧ w.heap.size ≤ g := by
  obtain ⟨i0, hi, hz0, hz1, hz2⟩ := info_parts infoInt
  have HST : Hid (∀ (k : Nat) (W : World), k < n → Below w.heap.size w W → Calls Try.prog cf (#[.int .i64 k] ++ caps) W fun e W' => e = .returned (.int .i64 (r k)) ∧ Below W.heap.size W W') := hstep
  clear hstep
  go_enter Try.func24, Try.ntmps24
  go_wp2_with (at_make; refine wpList_make_own _ rfl _ _ 24 rfl w.heap.size 3 i0 (.int .i64 0) 1 Try.underlying24 hi hz0 hz1 _ _ _ n rfl rfl (by omega) (by rw [hz2]; omega) (by unfold maxLen; omega) (Nat.le_refl _) ?_; intro w1 hown1 hgrow1)
  go_loopw [5, 10] (fun o i wr => ∃ k : Nat, k ≤ n ∧ i = .int .i64 k ∧ o = .slice (some ⟨w.heap.size, 0, none⟩) k n ∧ wr.ownsRow w.heap.size 3 1 (.slice (some ⟨w.heap.size, 0, none⟩) k n) k (vals r k) ∧ Below w.heap.size w wr) (fun _ i _ => n - (intOf i).toNat)
  case atStart =>
    have hb : Below w.heap.size w w1 := (Below.refl _ _).grown hgrow1 (Nat.le_refl _) (by simp)
    exact ⟨0, Nat.zero_le _, rfl, rfl, hown1, hb⟩
  case round =>
    clear hown1 hgrow1
    obtain ⟨k, hk, rfl, rfl, hown, hbel⟩ := hrel
    have HO : Hid (wr.ownsRow w.heap.size 3 1 (.slice (some ⟨w.heap.size, 0, none⟩) k n) k (vals r k)) := hown
    have HB : Hid (Below w.heap.size w wr) := hbel
    clear hown hbel
    by_cases hlt : k < n
    · go_wp2_with fail
      refine (HST.out k _ hlt HB.out).mono ?_
      rintro e w1 ⟨rfl, hb1⟩
      have hown1 := ownsRow_below HO.out hb1
      have HB1 : Hid (Below w.heap.size w w1) := HB.out.trans (hb1.mono HB.out.size)
      clear hb1
      go_wp2_with (at_builtin; refine wpList_append_fits _ rfl _ _ 24 rfl w.heap.size 3 i0 1 Try.underlying24 hi hz1 w.heap.size k n _ rfl (hown1.alloc _) ⟨w1.heap.size, 0, none⟩ 1 1 [.int .i64 (r k)] rfl rfl (cell_new1 _ _ _) (by simp [Value.oneCell']) (by omega) ?_; intro w2 hown2 hgrow2)
      go_roundw
      case rel =>
        have hb2 : Below w.heap.size w1 w2 := ((Below.refl _ _).alloc HB1.out.size _).grown hgrow2 (by simp; have := HB1.out.size; omega) (fun k e => by cases e; exact Nat.le_refl _)
        exact ⟨k + 1, by omega, by go_num, rfl, by rw [vals_succ]; exact hown2, HB1.out.trans hb2⟩
      case measure => simp [intOf]; omega
    · obtain rfl : k = n := by omega
      go_wp2
      go_ret
      obtain ⟨x, cap, e, _, _, hrow⟩ := row_of_owns HO.out
      cases e
      exact ⟨_, rfl, hrow, HB.out, Nat.le_refl _⟩

set_option maxHeartbeats 1000000 in
theorem chain_new (n : Nat) (x y : Option Addr) (cx cy lx ly : Nat) (f g : Nat → Int) (w : World) (hx : Row w x n f) (hy : Row w y n g) (h1 : Mild n f) (h2 : Mild n g) (b0 : n ≤ 1000) (b1 : n ≤ lx) (b2 : n ≤ ly) :
    Calls Try.prog 17 #[.int .i64 n, .slice x lx cx, .slice y ly cy] w fun e w' => ∃ s, e = .returned (.slice (some ⟨s, 0, none⟩) n n) ∧ Row w' (some ⟨s, 0, none⟩) n (conv f g) ∧ Below w.heap.size w w' ∧ w.heap.size ≤ s := by
  have HX : Hid (Row w x n f) := hx
  have HY : Hid (Row w y n g) := hy
  have H1 : Hid (Mild n f) := h1
  have H2 : Hid (Mild n g) := h2
  have hmf := run_makeFunc
  clear hx hy h1 h2
  go_enter Try.func17, Try.ntmps17
  go_wp2_with fail
  have hB0 : Below w.heap.size w ((w.alloc (.cells #[.slice x lx cx] 24)).alloc (.cells #[.slice y ly cy] 24)) := ((Below.refl _ _).alloc (Nat.le_refl _) _).alloc (by simp) _
  refine (cvdraw_new 25 #[.pointer (some ⟨w.heap.size, 0, none⟩), .pointer (some ⟨w.heap.size + 1, 0, none⟩)] n (conv f g) _ b0 entersChain ?_).mono ?_
  · intro k W hk hb
    have hB : Below w.heap.size w W := hB0.trans (hb.mono (by simp <;> omega))
    refine (chain1_any k w.heap.size (w.heap.size + 1) x y cx cy lx ly f g W ?_ ?_ ((HX.out.take hk).below hB) ((HY.out.take hk).below hB) (H1.out.take hk) (H2.out.take hk) (by omega) (by omega) (by omega)).mono ?_
    · rw [hb.cell (by simp <;> omega)]; simp
    · rw [hb.cell (by simp <;> omega)]; simp
    · rintro e W' ⟨rfl, hq⟩
      exact ⟨rfl, below_of_drew hq⟩
  rintro e w1 ⟨s, rfl, hrow, hb1, hs1⟩
  have HS1 : Hid (w.heap.size ≤ s) := Nat.le_trans hB0.size hs1
  clear hs1
  have HR : Hid (Row w1 (some ⟨s, 0, none⟩) n (conv f g)) := hrow
  clear hrow
  go_wp2
  go_ret
  exact ⟨s, rfl, HR.out, hB0.trans (hb1.mono (by simp <;> omega)), HS1.out⟩

set_option maxHeartbeats 1000000 in
theorem serve_new (x y : Option Addr) (cx cy n m : Nat) (c g : Nat → Int) (w : World) (hx : Row w x n c) (hy : Row w y m g) (h : okC m g) (hle : n ≤ m) :
    Calls Try.prog 8 #[.slice x n cx, .slice y m cy] w fun e w' => ((fst0 (fun i => amtE (c i)) n = 0 ∧ ∃ s, e = .returned (.tuple #[.slice (some ⟨s, 0, none⟩) n n, .nilIface]) ∧ Row w' (some ⟨s, 0, none⟩) n (conv (tot c) g) ∧ w.heap.size ≤ s) ∨ (fst0 (fun i => amtE (c i)) n ≠ 0 ∧ e = .returned (.tuple #[.slice none 0 0, .iface 43 (.int .i64 2)]))) ∧ Below w.heap.size w w' := by
  have b1 := h.len
  have HC : Hid (Calls Try.prog 15 #[.slice y m cy] w fun e w' => e = .returned .nilIface ∧ w' = w) := cvcheck_ok y cy m g w hy h
  have HX : Hid (Row w x n c) := hx
  have HY : Hid (Row w y m g) := hy
  have H : Hid (okC m g) := h
  have hnl : ¬ m < n := by omega
  clear hy h hx
  go_enter Try.func8, Try.ntmps8
  go_wp2_with fail
  refine HC.out.mono ?_
  rintro e w' ⟨rfl, rfl⟩
  go_wp2_with fail
  refine (totals_any x cx n c w' HX.out (by omega)).mono ?_
  rintro e w1 ⟨⟨hz, z, cz, rfl, hrow⟩ | ⟨hz, rfl⟩, hb1⟩
  · have HR : Hid (Row w1 z (n + 1) (tot c)) := hrow
    have HZ : Hid (fst0 (fun i => amtE (c i)) n = 0) := hz
    clear hrow hz
    go_wp2_with fail
    refine (chain_new n z y cz cy (n + 1) m (tot c) g w1 (HR.out.take (by omega)) ((HY.out.below hb1).take (by omega)) ?_ (H.out.mild.take (by omega)) (by omega) (by omega) (by omega)).mono ?_
    · intro i hi
      have := tot_bd (c := c) (n := n) (B := 1000000) (fun i hi => amtE_zero.1 ((fst0_zero n).1 HZ.out i hi)) i (by omega)
      omega
    rintro e w2 ⟨s, rfl, hrow2, hb2, hs2⟩
    have HS2 : Hid (w'.heap.size ≤ s) := Nat.le_trans hb1.size hs2
    clear hs2
    have HR2 : Hid (Row w2 (some ⟨s, 0, none⟩) n (conv (tot c) g)) := hrow2
    clear hrow2
    go_wp2
    go_ret2
    exact ⟨Or.inl ⟨HZ.out, s, rfl, HR2.out, HS2.out⟩, hb1.trans (hb2.mono hb1.size)⟩
  · have HZ : Hid (fst0 (fun i => amtE (c i)) n ≠ 0) := hz
    clear hz
    go_wp2
    go_ret2
    exact ⟨Or.inr ⟨HZ.out, rfl⟩, hb1⟩

theorem serve_fresh (x y : Option Addr) (cx cy n m : Nat) (c g : Nat → Int) (w : World) (hx : Row w x n c) (hy : Row w y m g) (h : okC m g) (hle : n ≤ m) (ha : ∀ i, i < n → okAmt (c i)) :
    Calls Try.prog 8 #[.slice x n cx, .slice y m cy] w fun e w' => ∃ s, e = .returned (.tuple #[.slice (some ⟨s, 0, none⟩) n n, .nilIface]) ∧ Row w' (some ⟨s, 0, none⟩) n (conv (tot c) g) ∧ Below w.heap.size w w' ∧ w.heap.size ≤ s := by
  refine (serve_new x y cx cy n m c g w hx hy h hle).mono ?_
  rintro e w' ⟨⟨_, s, rfl, hr, hs⟩ | ⟨hz, _⟩, hb⟩
  · exact ⟨s, rfl, hr, hb, hs⟩
  · exact absurd ((fst0_zero n).2 fun i hi => amtE_zero.2 (ha i hi)) hz
end Go.Proofs.Ytakggmhjfghfkaa
