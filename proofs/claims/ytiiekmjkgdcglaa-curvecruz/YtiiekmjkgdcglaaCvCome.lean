/-
  millracekeep.come: what comes keeps to the curve. Conditions: a curve that may be; at most 40 numbers; the numbers lie in memory, and a slice is no longer than its room.
-/
import Derived.Test.YtiiekmjkgdcglaaCvPick
import Derived.ArgAppend
namespace Go.Proofs.Ytiiekmjkgdcglaa
open Go.RowKit Go.Extern.Stop Go.Stop Go.Extern

/-- A number behind others. -/
def snoc (c : Nat → Int) (k : Nat) (v : Int) (i : Nat) : Int := if i < k then c i else v
theorem snoc_lt {c : Nat → Int} {k i : Nat} {v : Int} (h : i < k) : snoc c k v i = c i := if_pos h
theorem snoc_at (c : Nat → Int) (k : Nat) (v : Int) : snoc c k v k = v := if_neg (by omega)
theorem vals_snoc (c : Nat → Int) (k : Nat) (v : Int) : vals (snoc c k v) (k + 1) = vals c k ++ [.int .i64 v] := by
  rw [vals_succ, snoc_at, vals_congr fun i hi => snoc_lt hi]
theorem vals_cells {w : World} {x : Option Addr} {n : Nat} {c : Nat → Int} (h : Row w x n c) : ∀ b, x = some b → ∀ j u, (vals c n)[j]? = some u → w.cell? (b.add j) = some u := by
  rintro b rfl j u hj
  have hjn : j < n := by have := (List.getElem?_eq_some_iff.1 hj).1; simpa [vals] using this
  rw [vals_at c n j hjn] at hj
  obtain rfl := Option.some.inj hj
  rcases h with h | ⟨b', off, e, h⟩
  · omega
  · cases e
    have := h j hjn
    by_cases hz : j = 0
    · subst hz; simpa [Addr.add] using this
    · simpa [Addr.add, hz] using this
theorem vals_length (c : Nat → Int) (n : Nat) : (vals c n).length = n := by simp [vals]

theorem fst0_two {g : Nat → Int} : ∀ n, (∀ i, i < n → g i = 0 ∨ g i = 1) → fst0 g n = 0 ∨ fst0 g n = 1 := by
  intro n
  induction n with
  | zero => intro _; exact Or.inl rfl
  | succ n ih =>
    intro h
    simp only [fst0]
    split
    · exact h n (by omega)
    · exact ih fun i hi => h i (by omega)
theorem fitsE_two {n : Nat} {c a : Nat → Int} (h : ∀ i, i < n → 0 ≤ c i ∧ c i ≤ 1000000) : fitsE n c a = 0 ∨ fitsE n c a = 1 := by
  unfold fitsE
  refine fst0_two n fun s hs => fst0_two _ fun t ht => ?_
  have := h (s + t) (by omega)
  unfold rwE
  rw [if_neg (by omega)]
  split
  · exact Or.inr rfl
  · exact Or.inl rfl

/-- What come tells. -/
def ComeOk (n m : Nat) (a : Nat → Int) (w : World) (e : Ending) (w' : World) : Prop := ∃ (z : Option Addr) (k cz : Nat) (c : Nat → Int), e = .returned (.slice z k cz) ∧ Row w' z k c ∧ k ≤ cz ∧ cz ≤ maxLen ∧ (z = none → k = 0 ∧ cz = 0) ∧ k ≤ n ∧ k < m ∧ Fit k c a ∧ (∀ i, i < k → c i < 2000) ∧ Below w.heap.size w w'
set_option maxRecDepth 20000 in
set_option maxHeartbeats 8000000 in
theorem come_any (x y : Option Addr) (cx cy n m : Nat) (f a : Nat → Int) (w : World) (hx : Row w x n f) (hy : Row w y m a) (h : okC m a) (hn : n ≤ 40) :
    Calls Try.prog 14 #[.slice x n cx, .slice y m cy] w fun e w' => ComeOk n m a w e w' := by
  obtain ⟨i0, hi, hz0, hz1, hz2⟩ := info_parts infoInt
  have HX : Hid (Row w x n f) := hx
  have HY : Hid (Row w y m a) := hy
  have H : Hid (okC m a) := h
  have b1 := h.len
  have b2 := h.pos
  clear hx hy h
  go_enter Try.func14, Try.ntmps14
  go_wp2
  go_loopw [5, 6] (fun o i wr => ∃ (k : Nat) (c : Nat → Int), k ≤ n ∧ k + 1 ≤ m ∧ i = .int .i64 k ∧ wr.ownsRow w.heap.size 3 1 o k (vals c k) ∧ Hid (Fit k c a ∧ ∀ i, i < k → c i < 2000) ∧ Below w.heap.size w wr) (fun _ i _ => n - (intOf i).toNat)
  case atStart => exact ⟨0, fun _ => 0, Nat.zero_le _, by omega, rfl, World.ownsRow_nil w _ _ _, ⟨⟨fun i hi => by omega, fun s t hs ht => by omega⟩, fun i hi => by omega⟩, Below.refl _ _⟩
  case round =>
    obtain ⟨k, c, hk, hkm, rfl, hown, HF, hbel⟩ := hrel
    have HO : Hid (wr.ownsRow w.heap.size 3 1 u5 k (vals c k)) := hown
    have HB : Hid (Below w.heap.size w wr) := hbel
    clear hown hbel
    by_cases hlt : k < n ∧ k + 1 < m
    · obtain ⟨hkn, hkm1⟩ := hlt
      have hki : (k : Int) + 1 < m := by omega
      have RX : Hid (Row wr x n f) := HX.out.below HB.out
      obtain ⟨bx, ox, rfl⟩ := RX.out.some (by omega)
      have c0 := RX.out.at hkn
      obtain ⟨z, cz, rfl, hzc, hzm, hrow⟩ := row_of_owns HO.out
      have hzn : z = none → k = 0 ∧ cz = 0 := by
        rintro rfl
        rcases HO.out.2 with ⟨e, e2⟩ | ⟨g, cap, cur, e, _⟩
        · cases e; exact ⟨rfl, rfl⟩
        · cases e
      have HZN : Hid (z = none → k = 0 ∧ cz = 0) := hzn
      have HRW : Hid (Row wr z k c) := hrow
      have HZM : Hid (cz ≤ maxLen) := hzm
      have hkl : (k : Int) ≤ cz := by omega
      clear hrow hzn hzm
      go_wp2_with (go_at_call 19; refine (pick_any _ _ _ (by omega) (by omega)).mono ?_; rintro e wo ⟨rfl, rfl⟩)
      have hpk := pickN_bd (f k) 2000 (by omega)
      obtain ⟨v0, hv0⟩ : ∃ v0, pickN (f k) 2000 = v0 := ⟨_, rfl⟩
      rw [hv0] at hpk
      rw [hv0]
      clear hv0 c0
      go_loopw [7] (fun s w2 => ∃ v : Int, 0 ≤ v ∧ v < 2000 ∧ s = .int .i64 v ∧ Below wo.heap.size wo w2) (fun s _ => (intOf s).toNat)
      case atStart => exact ⟨v0, hpk.1, hpk.2, rfl, Below.refl _ _⟩
      case round =>
        obtain ⟨v, hv0, hv1, rfl, hb2⟩ := hrel
        have HW : Hid (Below wo.heap.size wo wr) := hb2
        clear hb2
        by_cases hvz : 0 < v
        · have RY : Hid (Row wr y m a) := (HY.out.below HB.out).below HW.out
          have RW : Hid (Row wr z k c) := HRW.out.below HW.out
          have hvr : ∀ i, i < k + 1 → 0 ≤ snoc c k v i ∧ snoc c k v i ≤ 1000000 := fun i hi => by
            by_cases e : i < k
            · rw [snoc_lt e]; exact HF.out.1.1 i e
            · obtain rfl : i = k := by omega
              rw [snoc_at]; omega
          have HTWO : Hid (fitsE (k + 1) (snoc c k v) a = 0 ∨ fitsE (k + 1) (snoc c k v) a = 1) := fitsE_two hvr
          clear hvr
          go_wp2_with (at_builtin; refine wpList_append_grows _ rfl _ _ 22 rfl 3 i0 (.int .i64 0) 1 8 Try.underlying22 hi hz0 hz1 hz2 rfl (by decide) z k k (vals c k) rfl (fun e => ⟨(HZN.out e).1, (HZN.out e).1⟩) (by rw [vals_length]; omega) (vals_cells (RW.out.alloc _)) ⟨wr.heap.size, 0, none⟩ 1 1 [.int .i64 v] rfl rfl (cell_new1 _ _ _) (by simp [Value.oneCell']) (by omega) (by unfold maxLen; omega) (by omega) ?_; intro v' w3 hown3 hgrow3)
          have hb3 : Below wr.heap.size wr w3 := ((Below.refl _ _).alloc (Nat.le_refl _) _).grown hgrow3 (by simp) (by simp)
          rw [← vals_snoc] at hown3
          obtain ⟨x3, c3, rfl, hc3, _, hr3⟩ := row_of_owns hown3
          have HFT := fits_any x3 y c3 cy (k + 1) m (snoc c k v) a w3 hr3 (RY.out.below hb3) H.out hkm1 hc3
          have HW3 : Hid (Below wo.heap.size wo w3) := HW.out.trans (hb3.mono HW.out.size)
          rcases HTWO.out with hE | hE
          · rw [hE] at HFT
            have HFT' : Hid (Calls Try.prog 25 #[.slice x3 (k + 1) c3, .slice y m cy] w3 fun e w'' => e = .returned (.tuple #[.bool true, .nilIface]) ∧ w'' = w3) := HFT
            have HFIT : Hid (Fit (k + 1) (snoc c k v) a ∧ ∀ i, i < k + 1 → snoc c k v i < 2000) := ⟨fitsE_zero.1 hE, fun i hi => by
              by_cases e : i < k
              · rw [snoc_lt e]; exact HF.out.2 i e
              · obtain rfl : i = k := by omega
                rw [snoc_at]; omega⟩
            clear HFT hE hb3 hown3 hgrow3 hr3 HW HTWO
            have HW : Hid (Below wo.heap.size wo w3) := HW3.out
            refine HFT'.out.mono ?_
            rintro e w5 ⟨rfl, rfl⟩
            go_wp2_with (at_builtin; refine wpList_append_own _ rfl _ _ 22 rfl w.heap.size 3 i0 (.int .i64 0) 1 8 Try.underlying22 hi hz0 hz1 hz2 rfl (by decide) _ _ _ rfl ((ownsRow_below HO.out HW.out).alloc _) ⟨w5.heap.size, 0, none⟩ 1 1 [.int .i64 v] rfl rfl (cell_new1 _ _ _) (by simp [Value.oneCell']) (by unfold maxLen; omega) (by omega) (by simp; have := HB.out.size; have := HW.out.size; omega) ?_; intro v' w4 hown4 hgrow4 _)
            go_roundw
            case rel =>
              have hbW : Below w.heap.size w w5 := HB.out.trans (HW.out.mono HB.out.size)
              have hb4 : Below w.heap.size w w4 := (hbW.alloc hbW.size _).grown hgrow4 (by simp; have := hbW.size; omega) (fun i e => (HO.out.lt i e).1)
              exact ⟨k + 1, snoc c k v, by omega, by omega, by go_num, by rw [vals_snoc]; exact hown4, HFIT, hb4⟩
            case measure => simp [intOf]; omega
          · rw [hE] at HFT
            have HFT' : Hid (Calls Try.prog 25 #[.slice x3 (k + 1) c3, .slice y m cy] w3 fun e w'' => e = .returned (.tuple #[.bool false, .nilIface]) ∧ w'' = w3) := HFT
            clear HFT hE hb3 hown3 hgrow3 hr3 HTWO
            refine HFT'.out.mono ?_
            rintro e w5 ⟨rfl, rfl⟩
            go_wp2
            go_roundw
            case rel => exact ⟨v / 2, by omega, by omega, rfl, HW3.out⟩
            case measure => simp [intOf]; omega
        · obtain rfl : v = 0 := by omega
          have HFIT : Hid (Fit (k + 1) (snoc c k 0) a ∧ ∀ i, i < k + 1 → snoc c k 0 i < 2000) := ⟨Fit.snoc_zero (HF.out.1.congr fun i hi => (snoc_lt hi).symm) H.out hkm1 (snoc_at _ _ _), fun i hi => by
            by_cases e : i < k
            · rw [snoc_lt e]; exact HF.out.2 i e
            · obtain rfl : i = k := by omega
              rw [snoc_at]; omega⟩
          go_wp2_with (at_builtin; refine wpList_append_own _ rfl _ _ 22 rfl w.heap.size 3 i0 (.int .i64 0) 1 8 Try.underlying22 hi hz0 hz1 hz2 rfl (by decide) _ _ _ rfl ((ownsRow_below HO.out HW.out).alloc _) ⟨wr.heap.size, 0, none⟩ 1 1 [.int .i64 0] rfl rfl (cell_new1 _ _ _) (by simp [Value.oneCell']) (by unfold maxLen; omega) (by omega) (by simp; have := HB.out.size; have := HW.out.size; omega) ?_; intro v' w4 hown4 hgrow4 _)
          go_roundw
          case rel =>
            have hbW : Below w.heap.size w wr := HB.out.trans (HW.out.mono HB.out.size)
            have hb4 : Below w.heap.size w w4 := (hbW.alloc hbW.size _).grown hgrow4 (by simp; have := hbW.size; omega) (fun i e => (HO.out.lt i e).1)
            exact ⟨k + 1, snoc c k 0, by omega, by omega, by go_num, by rw [vals_snoc]; exact hown4, HFIT, hb4⟩
          case measure => simp [intOf]; omega
    · obtain ⟨z, cz, rfl, hzc, hzm, hrow⟩ := row_of_owns HO.out
      have hzn : z = none → k = 0 ∧ cz = 0 := by
        rintro rfl
        rcases HO.out.2 with ⟨e, e2⟩ | ⟨g, cap, cur, e, _⟩
        · cases e; exact ⟨rfl, rfl⟩
        · cases e
      have HRES : Hid (Row wr z k c ∧ k ≤ cz ∧ cz ≤ maxLen ∧ (z = none → k = 0 ∧ cz = 0)) := ⟨hrow, hzc, hzm, hzn⟩
      clear hrow hzn hzm
      by_cases hkn : k < n
      · have hk1 : ¬ (k : Int) + 1 < m := by omega
        go_wp2
        go_ret
        exact ⟨z, k, cz, c, rfl, HRES.out.1, HRES.out.2.1, HRES.out.2.2.1, HRES.out.2.2.2, hk, by omega, HF.out.1, HF.out.2, HB.out⟩
      · go_wp2
        go_ret
        exact ⟨z, k, cz, c, rfl, HRES.out.1, HRES.out.2.1, HRES.out.2.2.1, HRES.out.2.2.2, hk, by omega, HF.out.1, HF.out.2, HB.out⟩
end Go.Proofs.Ytiiekmjkgdcglaa
