/-
  millracekeep.SketchGries: it returns true at every argument; nothing that was there before is otherwise. Conditions: the keys lie in memory, numbers of 64 bits.
-/
import Derived.Test.YtkmbnklfaaopaaaSkV
namespace Go.Proofs.Ytkmbnklfaaopaaa
open Go.RowKit Go.Extern.Stop Go.Stop Go.Extern Go.Maps

theorem drewN_assoc (w : World) (a b c : Nat) : (w.drewN (a + b)).drewN c = w.drewN (a + (b + c)) := by simp [World.drewN, Nat.add_assoc]
/-- All that is told of the first k. -/
def sumK (M : List (Int × Int)) (k : Nat) : Int := sumP (M.take k)
theorem sumP_append (L M : List (Int × Int)) : sumP (L ++ M) = sumP L + sumP M := by
  induction L with
  | nil => simp [sumP]
  | cons p L ih => simp only [List.cons_append, sumP, ih]; omega
theorem sumK_succ {M : List (Int × Int)} {k : Nat} {p : Int × Int} (h : M[k]? = some p) : sumK M (k + 1) = sumK M k + p.2 := by
  unfold sumK
  rw [List.take_add_one, h]
  show sumP (M.take k ++ [p]) = _
  rw [sumP_append]
  simp [sumP]
theorem sumK_bd {M : List (Int × Int)} (h : ∀ p ∈ M, 0 ≤ p.2 ∧ p.2 ≤ 1000) : ∀ k, k ≤ M.length → 0 ≤ sumK M k ∧ sumK M k ≤ 1000 * k
  | 0, _ => by simp [sumK, sumP]
  | k + 1, hk => by
    obtain ⟨p, hp⟩ : ∃ p, M[k]? = some p := ⟨_, List.getElem?_eq_getElem (by omega)⟩
    have := sumK_bd h k (by omega)
    have h2 := h p (List.mem_of_getElem? hp)
    rw [sumK_succ hp]
    omega
set_option maxRecDepth 20000 in
set_option maxHeartbeats 4000000 in
theorem griesLaw_any (x : Option Addr) (cap n : Nat) (f : Nat → Int) (cv : Int) (w : World) (hx : Row w x n f) (hw : ∀ i, i < n → I64 (f i)) (b0 : n ≤ maxLen) :
    Calls Try.prog 3 #[.slice x n cap, .int .i64 cv] w fun e w' => e = .returned (.bool true) ∧ Below w.heap.size w w' := by
  have HX : Hid (Row w x n f) := hx
  have HW : Hid (∀ i, i < n → I64 (f i)) := hw
  unfold maxLen at b0
  clear hx hw
  by_cases hn : 200 < n
  · go_enter Try.func3, Try.ntmps3
    go_wp2
    go_ret
    exact ⟨rfl, Below.refl _ _⟩
  clear b0
  have hpk := pickN_bd cv 100 (by omega)
  go_enter Try.func3, Try.ntmps3
  go_wp2_with fail
  refine (pick_any cv 100 w (by omega) (by omega)).mono ?_
  rintro e w0 ⟨rfl, rfl⟩
  have ew : IntKind.i64.wrap (1 + pickN cv 100) = 1 + pickN cv 100 := by rw [IntKind.wrap_i64]; omega
  obtain ⟨c, hcd⟩ : ∃ c, c = 1 + pickN cv 100 := ⟨_, rfl⟩
  have hc0 : 1 ≤ c := by omega
  have hc1 : c ≤ 100 := by omega
  rw [← hcd] at ew
  clear hpk
  go_wp2_with fail
  rw [← hcd]
  clear ew hcd
  refine (top_yes x cap n f c w0 HX.out HW.out (by omega) hc0 hc1).mono ?_
  rintro e w1 ⟨⟨tx, tcap, T, rfl, ht1, ht2, ht3⟩, hb1⟩
  have HT : Hid (T.Perm (topN c f n) ∧ PrR w1 tx T) := ⟨ht1, ht3⟩
  have HB1 : Hid (Below w0.heap.size w0 w1) := hb1
  clear ht1 ht2 ht3 hb1
  go_wp2_with fail
  refine (exact_any x cap n f w1 (HX.out.below HB1.out) HW.out (by omega)).mono ?_
  rintro e w2 ⟨⟨ex, ecap, X, rfl, he1, he2, he3⟩, hb2⟩
  have HE : Hid (X.Perm (exN f n) ∧ PrR w2 ex X) := ⟨he1, he3⟩
  have HT2 : Hid (PrR w2 tx T) := HT.out.2.below hb2
  have HB2 : Hid (Below w0.heap.size w0 w2) := HB1.out.trans (hb2.mono HB1.out.size)
  clear he1 he2 he3 hb2
  go_wp2_with fail
  refine (sketched_any w2).mono ?_
  rintro e w3 ⟨rfl, hb3⟩
  have HTP : Hid (PrR w3 tx T) := HT2.out.below hb3
  have HXP : Hid (PrR w3 ex X) := HE.out.2.below hb3
  have HB3 : Hid (Below w0.heap.size w0 w3) := HB2.out.trans (hb3.mono HB2.out.size)
  have hT : T.Perm (topN c f n) := HT.out.1
  have hX : X.Perm (exN f n) := HE.out.1
  have HTV : Hid (∀ k, vl T k = vl (topN c f n) k) := fun k => vl_perm (topN_ok c f n).ap hT k
  have HXV : Hid (∀ k, vl X k = cnt f k n) := fun k => by rw [vl_perm (exN_ok f n).ap hX k, vl_ex]
  have HXM : Hid (∀ p ∈ X, vl X p.1 = p.2 ∧ 1 ≤ p.2 ∧ p.2 ≤ n) := fun p hp => ⟨vl_mem ((exN_ok f n).ap.perm hX.symm) hp, (exN_ok f n).val p (hX.subset hp)⟩
  have HTM : Hid (∀ p ∈ T, vl T p.1 = p.2 ∧ 1 ≤ p.2 ∧ p.2 ≤ n) := fun p hp => ⟨vl_mem ((topN_ok c f n).ap.perm hT.symm) hp, (topN_ok c f n).val p (hT.subset hp)⟩
  have hTl : (T.length : Int) ≤ c := by rw [hT.length_eq]; exact mg_len hc0
  have hXl : X.length ≤ n := by rw [hX.length_eq]; exact (exN_ok f n).len
  have HS : Hid (sumP X = n) := by show sumP X = n; rw [sumP_perm hX, sumP_ex]
  have hTl2 : ¬ c < (T.length : Int) := by omega
  clear HT HE HT2 HB1 HB2 hb3 hT hX
  go_wp2
  go_loopw [8, 9] (fun s i wr => ∃ k : Nat, k ≤ X.length ∧ i = .int .i64 k ∧ s = .int .i64 (sumK X k) ∧ ∃ q, wr = w3.drewN q) (fun _ i _ => X.length - (intOf i).toNat)
  case atStart => exact ⟨0, Nat.zero_le _, rfl, rfl, 0, rfl⟩
  case round =>
    obtain ⟨k, hk, rfl, rfl, q, rfl⟩ := hrel
    have bs := sumK_bd (M := X) (fun p hp => by have := HXM.out p hp; omega) k hk
    by_cases hlt : k < X.length
    · obtain ⟨p, hp⟩ : ∃ p, X[k]? = some p := ⟨_, List.getElem?_eq_getElem hlt⟩
      obtain ⟨b, off, rfl, c0, c1⟩ := HXP.out.at hp
      have HSS : Hid (sumK X (k + 1) = sumK X k + p.2) := sumK_succ hp
      obtain ⟨p1, p2, p3⟩ := HXM.out p (List.mem_of_getElem? hp)
      have hm := mg_end (c := c) (f := f) (n := n) hc0 p.1
      rw [← HXV.out, p1, ← HTV.out] at hm
      have HMN : Hid (∀ q, Calls Try.prog 10 #[.slice tx T.length tcap, .int .i64 p.1] (w3.drewN q) fun e w' => e = .returned (.int .i64 (vl T p.1)) ∧ ∃ q', w' = (w3.drewN q).drewN q') := fun q => many_any tx tcap T p.1 (w3.drewN q) (HTP.out.drewN q) (by omega)
      have hv0 : 0 ≤ vl T p.1 := by rw [HTV.out]; exact ((topN_ok c f n).vl p.1).1
      generalize vl T p.1 = v at *
      obtain ⟨hm1, hm2⟩ := hm
      have e0 : IntKind.i64.wrap (sumK X k + p.2) = sumK X (k + 1) := by rw [HSS.out, IntKind.wrap_i64]; omega
      have e1 : IntKind.i64.wrap (p.2 - v) = p.2 - v := by rw [IntKind.wrap_i64]; omega
      have e2 : IntKind.i64.wrap (c + 1) = c + 1 := by rw [IntKind.wrap_i64]; omega
      have hm0 : 0 ≤ (p.2 - v) * (c + 1) := Int.mul_nonneg (by omega) (by omega)
      have e3 : IntKind.i64.wrap ((p.2 - v) * (c + 1)) = (p.2 - v) * (c + 1) := by
        rw [IntKind.wrap_i64]
        generalize (p.2 - v) * (c + 1) = z at *
        omega
      have g0 : ¬ p.2 < v := by omega
      have g1 : ¬ (n : Int) < (p.2 - v) * (c + 1) := by omega
      clear hm0 p1 hv0 bs
      go_wp2_with fail
      refine (HMN.out _).mono ?_
      rintro e w4 ⟨rfl, q', rfl⟩
      go_wp2
      go_roundw
      case rel => exact ⟨k + 1, by omega, by go_num, rfl, _, rfl⟩
      case measure => simp [intOf]; omega
    · obtain rfl : k = X.length := by omega
      have HSX : Hid (sumK X X.length = n) := by show sumP (X.take X.length) = n; rw [List.take_length]; exact HS.out
      rw [HSX.out] at *
      have HXP2 : Hid (PrR w3 ex X) := HXP.out
      clear HXP bs
      go_wp2
      go_loopw [11] (fun i wx => ∃ k : Nat, k ≤ T.length ∧ i = .int .i64 k ∧ ∃ q, wx = w3.drewN q) (fun i _ => T.length - (intOf i).toNat)
      case atStart => exact ⟨0, Nat.zero_le _, rfl, q, rfl⟩
      case round =>
        obtain ⟨k, hk, rfl, q, rfl⟩ := hrel
        by_cases hlt : k < T.length
        · obtain ⟨p, hp⟩ : ∃ p, T[k]? = some p := ⟨_, List.getElem?_eq_getElem hlt⟩
          obtain ⟨b, off, rfl, c0, c1⟩ := HTP.out.at hp
          obtain ⟨p1, p2, p3⟩ := HTM.out p (List.mem_of_getElem? hp)
          have hm := (mg_end (c := c) (f := f) (n := n) hc0 p.1).1
          rw [← HXV.out, ← HTV.out, p1] at hm
          have HMN : Hid (∀ W, PrR W ex X → Calls Try.prog 10 #[.slice ex X.length ecap, .int .i64 p.1] W fun e w' => e = .returned (.int .i64 (vl X p.1)) ∧ ∃ q', w' = W.drewN q') := fun W h => many_any ex ecap X p.1 W h (by omega)
          generalize vl X p.1 = v at *
          have g0 : decide (p.2 < 1) = false := by rw [decide_eq_false_iff_not]; omega
          have g1 : ¬ v < p.2 := by omega
          clear p1
          go_wp2
          go_quiet ((go_at_call 10; refine (HMN.out _ (HXP2.out.drewN _)).mono ?_; rintro e w4 ⟨rfl, q', rfl⟩; exact ⟨rfl, _, drewN_assoc _ _ _ _⟩))
          go_wp2
          go_roundw
          case rel => exact ⟨k + 1, by omega, by go_num, _, rfl⟩
          case measure => simp [intOf]; omega
        · obtain rfl : k = T.length := by omega
          go_wp2
          go_ret
          exact ⟨rfl, below_drewN' HB3.out _⟩
end Go.Proofs.Ytkmbnklfaaopaaa
