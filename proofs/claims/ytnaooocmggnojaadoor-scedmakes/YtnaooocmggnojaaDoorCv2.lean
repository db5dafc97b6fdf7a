/-
  curve.draw: in new memory what the function that is handed to it returns at each tick; curve.chain: of all ways to part the time the least sum; nothing that was there before is otherwise. Conditions: at most 1000 ticks; the function returns (its contract is a premise) and turns nothing that was there; the numbers lie in memory and are within 10^13.
-/
import Derived.Test.YtnaooocmggnojaaDoorCv1
namespace Go.Proofs.YtnaooocmggnojaaDoor
open Go.RowKit Go.Extern.Stop Go.Stop Go.Extern

theorem cell_new1 (w : World) (v : Value) (t : TypeId) : ∀ j u, [v][j]? = some u → (w.alloc (.cells #[v] t)).cell? ((⟨w.heap.size, 0, none⟩ : Addr).add j) = some u := by
  intro j u h
  cases j with
  | zero => simp at h; subst h; simp [Addr.add]
  | succ j => simp at h
set_option maxRecDepth 20000 in
set_option maxHeartbeats 2000000 in
theorem cvdraw_any (cf : Nat) (caps : Array Value) (n : Nat) (r : Nat → Int) (w : World) (b0 : n ≤ 1000) (hent : ∀ (args : Array Value) (W : World), (callFunc cf args).run Tryd.prog W = .ok (.enter cf args) W)
    (hstep : ∀ (k : Nat) (W : World), k < n → Below w.heap.size w W → Calls Tryd.prog cf (#[.int .i64 k] ++ caps) W fun e W' => e = .returned (.int .i64 (r k)) ∧ Below W.heap.size W W') :
    Calls Tryd.prog 46 #[.int .i64 n, .func (.func cf) #[] caps] w fun e w' => ∃ g, e = .returned (.slice (some ⟨g, 0, none⟩) n n) ∧ Row w' (some ⟨g, 0, none⟩) n r ∧ Below w.heap.size w w' := by
  obtain ⟨i0, hi, hz0, hz1, hz2⟩ := info_parts infoInt
  have HST : Hid (∀ (k : Nat) (W : World), k < n → Below w.heap.size w W → Calls Tryd.prog cf (#[.int .i64 k] ++ caps) W fun e W' => e = .returned (.int .i64 (r k)) ∧ Below W.heap.size W W') := hstep
  clear hstep
  go_enter Tryd.func46, Tryd.ntmps46
  go_wp2_with (at_make; refine wpList_make_own _ rfl _ _ 49 rfl w.heap.size 3 i0 (.int .i64 0) 1 Tryd.underlying49 hi hz0 hz1 _ _ _ n rfl rfl (by omega) (by rw [hz2]; omega) (by unfold maxLen; omega) (Nat.le_refl _) ?_; intro w1 hown1 hgrow1)
  go_loopw [5, 10] (fun o i wr => ∃ k : Nat, k ≤ n ∧ i = .int .i64 k ∧ o = .slice (some ⟨w.heap.size, 0, none⟩) k n ∧ wr.ownsRow w.heap.size 3 1 (.slice (some ⟨w.heap.size, 0, none⟩) k n) k (vals r k) ∧ Below w.heap.size w wr) (fun _ i _ => n - (intOf i).toNat)
  case atStart =>
    have hb : Below w.heap.size w w1 := (Below.refl _ _).grown hgrow1 (Nat.le_refl _) (by simp)
    exact ⟨0, Nat.zero_le _, rfl, rfl, hown1, hb⟩
  case round =>
    clear hown1 hgrow1
    obtain ⟨k, hk, rfl, rfl, hown, hbel⟩ := hrel
    have HO : Hid (wr.ownsRow w.heap.size 3 1 (.slice (some ⟨w.heap.size, 0, none⟩) k n) k (vals r k)) := hown
    have HB : Hid (Below w.heap.size w wr) := hbel
    clear hown hbel
    by_cases hlt : k < n
    · go_wp2_with fail
      refine (HST.out k _ hlt HB.out).mono ?_
      rintro e w1 ⟨rfl, hb1⟩
      have hown1 := ownsRow_below HO.out hb1
      have HB1 : Hid (Below w.heap.size w w1) := HB.out.trans (hb1.mono HB.out.size)
      clear hb1
      go_wp2_with (at_builtin; refine wpList_append_fits _ rfl _ _ 49 rfl w.heap.size 3 i0 1 Tryd.underlying49 hi hz1 w.heap.size k n _ rfl (hown1.alloc _) ⟨w1.heap.size, 0, none⟩ 1 1 [.int .i64 (r k)] rfl rfl (cell_new1 _ _ _) (by simp [Value.oneCell']) (by omega) ?_; intro w2 hown2 hgrow2)
      go_roundw
      case rel =>
        have hb2 : Below w.heap.size w1 w2 := ((Below.refl _ _).alloc HB1.out.size _).grown hgrow2 (by simp; have := HB1.out.size; omega) (fun k e => by cases e; exact Nat.le_refl _)
        exact ⟨k + 1, by omega, by go_num, rfl, by rw [vals_succ]; exact hown2, HB1.out.trans hb2⟩
      case measure => simp [intOf]; omega
    · obtain rfl : k = n := by omega
      go_wp2
      go_ret
      obtain ⟨x, cap, e, _, _, hrow⟩ := row_of_owns HO.out
      cases e
      exact ⟨_, rfl, hrow, HB.out⟩

theorem draw_int (z : Int) (cf : Nat) (caps : Array Value) (n : Nat) (hz : z = n) (r : Nat → Int) (w : World) (b0 : n ≤ 1000) (hent : ∀ (args : Array Value) (W : World), (callFunc cf args).run Tryd.prog W = .ok (.enter cf args) W)
    (hstep : ∀ (k : Nat) (W : World), k < n → Below w.heap.size w W → Calls Tryd.prog cf (#[.int .i64 k] ++ caps) W fun e W' => e = .returned (.int .i64 (r k)) ∧ Below W.heap.size W W') :
    Calls Tryd.prog 46 #[.int .i64 z, .func (.func cf) #[] caps] w fun e w' => ∃ g, e = .returned (.slice (some ⟨g, 0, none⟩) n n) ∧ Row w' (some ⟨g, 0, none⟩) n r ∧ Below w.heap.size w w' := by
  subst hz
  exact cvdraw_any cf caps n r w b0 hent hstep

theorem entersChain (args : Array Value) (W : World) : (callFunc 47 args).run Tryd.prog W = .ok (.enter 47 args) W := enters_of Tryd.func47 (by kernel_rfl) rfl args W

set_option maxHeartbeats 1000000 in
theorem chain1_any (t : Nat) (ca cb : Nat) (x y : Option Addr) (cx cy lx ly : Nat) (f g : Nat → Int) (w : World) (hca : w.cell? ⟨ca, 0, none⟩ = some (.slice x lx cx)) (hcb : w.cell? ⟨cb, 0, none⟩ = some (.slice y ly cy)) (hx : Row w x (t + 1) f) (hy : Row w y (t + 1) g) (h1 : Mild (t + 1) f) (h2 : Mild (t + 1) g) (b0 : t ≤ 1000) (b1 : t < lx) (b2 : t < ly) :
    Calls Tryd.prog 47 #[.int .i64 t, .pointer (some ⟨ca, 0, none⟩), .pointer (some ⟨cb, 0, none⟩)] w fun e w' => e = .returned (.int .i64 (conv f g t)) ∧ ∃ q, w' = w.drewN q := by
  obtain ⟨b, off, rfl⟩ := hx.some (by omega)
  obtain ⟨b', off', rfl⟩ := hy.some (by omega)
  have HX : Hid (Row w (some ⟨b, off, none⟩) (t + 1) f) := hx
  have HY : Hid (Row w (some ⟨b', off', none⟩) (t + 1) g) := hy
  have H1 : Hid (Mild (t + 1) f) := h1
  have H2 : Hid (Mild (t + 1) g) := h2
  have c0 := hx.at (i := 0) (by omega)
  have c1 := hy.at (i := t) (by omega)
  rw [Nat.add_zero] at c0
  have d0 := h1 0 (by omega)
  have d1 := h2 t (by omega)
  clear hx hy h1 h2
  go_enter Tryd.func47, Tryd.ntmps47
  go_wp2
  go_quiet (fail)
  go_wp2
  clear c0 c1 d0 d1
  go_loopw [5, 17] (fun l i wr => ∃ k : Nat, k ≤ t + 1 ∧ i = .int .i64 k ∧ l = .int .i64 (pm (fun s => f s + g (t - s)) k) ∧ ∃ q, wr = w.drewN q) (fun _ i _ => t + 1 - (intOf i).toNat)
  case atStart => exact ⟨0, Nat.zero_le _, rfl, rfl, _, rfl⟩
  case round =>
    obtain ⟨k, hk, rfl, rfl, q, rfl⟩ := hrel
    by_cases hlt : k < t + 1
    · have c0 := HX.out.at hlt
      have c1 := HY.out.at (i := t - k) (by omega)
      have d0 := H1.out k hlt
      have d1 := H2.out (t - k) (by omega)
      have HP : Hid (pm (fun s => f s + g (t - s)) (k + 1) = min (pm (fun s => f s + g (t - s)) k) (f k + g (t - k))) := rfl
      have e0 : IntKind.i64.wrap (f k + g (t - k)) = f k + g (t - k) := by rw [IntKind.wrap_i64]; omega
      have e1 : ((t : Int) - k).toNat = t - k := by omega
      generalize pm (fun s => f s + g (t - s)) k = p at *
      generalize f k = u at *
      generalize g (t - k) = v at *
      by_cases hm : u + v < p
      · have HM : Hid (u + v < p) := hm
        go_wp2
        go_quiet (fail)
        go_wp2
        go_roundw
        case rel => exact ⟨k + 1, by omega, by go_num, by rw [HP.out]; have := HM.out; congr 1; omega, _, rfl⟩
        case measure => simp [intOf]; omega
      · have HM : Hid (p ≤ u + v) := Int.not_lt.1 hm
        go_wp2
        go_quiet (fail)
        go_wp2
        go_roundw
        case rel => exact ⟨k + 1, by omega, by go_num, by rw [HP.out]; have := HM.out; congr 1; omega, _, rfl⟩
        case measure => simp [intOf]; omega
    · obtain rfl : k = t + 1 := by omega
      go_wp2
      go_ret
      exact ⟨rfl, _, rfl⟩
end Go.Proofs.YtnaooocmggnojaaDoor
