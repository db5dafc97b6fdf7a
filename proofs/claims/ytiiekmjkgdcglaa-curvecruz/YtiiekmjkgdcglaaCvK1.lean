/-
  millracekeep.curved is true; lines says whether all of several rows are curves of at most 60 numbers up to 10^11; sameInts of equal rows is true. Conditions: the numbers lie in memory.
-/
import Derived.Test.YtiiekmjkgdcglaaCv5
namespace Go.Proofs.Ytiiekmjkgdcglaa
open Go.RowKit Go.Extern.Stop Go.Stop Go.Extern

/-- Three numbers. -/
def three (a b c : Int) : Nat → Int
  | 0 => a
  | 1 => b
  | _ => c
theorem okC_three {a b c : Int} (h0 : 0 ≤ a) (h1 : a ≤ b) (h2 : b ≤ c) (h3 : c ≤ 1000000000000) : okC 3 (three a b c) := by
  refine ⟨by omega, by omega, fun i hi => ?_, fun i hi => ?_, fun i hi => ?_⟩
  · match i, hi with
    | 0, _ => exact h0
    | 1, _ => show 0 ≤ b; omega
    | 2, _ => show 0 ≤ c; omega
  · match i, hi with
    | 0, _ => show a ≤ _; omega
    | 1, _ => show b ≤ _; omega
    | 2, _ => exact h3
  · match i, hi with
    | 0, _ => exact h1
    | 1, _ => exact h2
theorem row_three (w : World) (a b c : Int) (t : TypeId) : Row (w.alloc (.cells #[.int .i64 a, .int .i64 b, .int .i64 c] t)) (some ⟨w.heap.size, 0, none⟩) 3 (three a b c) := by
  refine Or.inr ⟨w.heap.size, 0, rfl, fun i hi => ?_⟩
  match i, hi with
  | 0, _ => simp [three]
  | 1, _ => simp [three]
  | 2, _ => simp [three]
theorem conv_one : conv (three 0 2 3) (three 0 1 5) 1 = 1 := by decide
theorem conv_two : conv (three 0 2 3) (three 0 1 5) 2 = 3 := by decide

set_option maxHeartbeats 1000000 in
theorem curved_true (w : World) : Calls Try.prog 7 #[] w fun e w' => e = .returned (.bool true) ∧ Below w.heap.size w w' := by
  go_enter Try.func7, Try.ntmps7
  go_wp2_with fail
  have hB0 : Below w.heap.size w ((w.alloc (.cells #[.int .i64 0, .int .i64 2, .int .i64 3] 3)).alloc (.cells #[.int .i64 0, .int .i64 1, .int .i64 5] 3)) := ((Below.refl _ _).alloc (Nat.le_refl _) _).alloc (by simp) _
  refine (then_ok (some ⟨w.heap.size, 0, none⟩) (some ⟨w.heap.size + 1, 0, none⟩) 3 3 3 3 (three 0 2 3) (three 0 1 5) _ ((row_three w 0 2 3 _).alloc _) ?_ (okC_three (by omega) (by omega) (by omega) (by omega)) (okC_three (by omega) (by omega) (by omega) (by omega))).mono ?_
  · have := row_three (w.alloc (.cells #[.int .i64 0, .int .i64 2, .int .i64 3] 3)) 0 1 5 3
    simpa using this
  rintro e w1 ⟨s, rfl, hrow, hb1⟩
  have c1 := hrow.at (i := 1) (by omega)
  have c2 := hrow.at (i := 2) (by omega)
  rw [conv_one] at c1
  rw [conv_two] at c2
  clear hrow
  go_wp2
  go_ret
  exact ⟨rfl, hB0.trans (hb1.mono (by simp <;> omega))⟩

/-- A curve that the laws hold. -/
def lineOk (n : Nat) (f : Nat → Int) : Prop := n ≤ 60 ∧ okC n f ∧ ∀ k, k < n → f k ≤ 100000000000
def Lines (m : Nat) (N : Nat → Nat) (F : Nat → Nat → Int) : Prop := ∀ i, i < m → lineOk (N i) (F i)
set_option maxHeartbeats 2000000 in
theorem lines_any (b m cap : Nat) (X : Nat → Option Addr) (N C : Nat → Nat) (F : Nat → Nat → Int) (w : World) (b0 : m ≤ 10) (hc : ∀ i, i < m → w.cell? ⟨b, i, none⟩ = some (.slice (X i) (N i) (C i))) (hR : ∀ i, i < m → Row w (X i) (N i) (F i)) (hN : ∀ i, i < m → N i ≤ maxLen) :
    Calls Try.prog 8 #[.int .i64 60, .slice (some ⟨b, 0, none⟩) m cap] w fun e w' => ((Lines m N F ∧ e = .returned (.bool true)) ∨ (¬ Lines m N F ∧ e = .returned (.bool false))) ∧ w' = w := by
  have HC : Hid (∀ i, i < m → w.cell? ⟨b, i, none⟩ = some (.slice (X i) (N i) (C i))) := hc
  have HR : Hid (∀ i, i < m → Row w (X i) (N i) (F i)) := hR
  have HN : Hid (∀ i, i < m → N i ≤ maxLen) := hN
  clear hc hR hN
  go_enter Try.func8, Try.ntmps8
  go_wp2
  go_loop [5] (fun i => ∃ k : Nat, k ≤ m ∧ i = .int .i64 k ∧ Hid (∀ i, i < k → lineOk (N i) (F i))) (fun i => m - (intOf i).toNat)
  case atStart => exact ⟨0, Nat.zero_le _, rfl, fun i hi => by omega⟩
  case round =>
    obtain ⟨k, hk, rfl, HF⟩ := hrel
    by_cases hlt : k < m
    · have c0 := HC.out k hlt
      have hr := HR.out k hlt
      have hn := HN.out k hlt
      have HM : Hid (∀ f, f = F k → ∀ n, n = N k → lineOk n f → ∀ i, i < k + 1 → lineOk (N i) (F i)) := by
        rintro f rfl n rfl h i hi
        by_cases e : i = k
        · subst e; exact h
        · exact HF.out i (by omega)
      have HW : Hid (∀ f, f = F k → ∀ n, n = N k → ¬ lineOk n f → ¬ Lines m N F) := by
        rintro f rfl n rfl h hA
        exact h (hA k hlt)
      generalize X k = x at *
      generalize N k = n at *
      generalize C k = cc at *
      generalize F k = f at *
      have hML := hn
      unfold maxLen at hML
      by_cases h60 : 60 < n
      · have HQ : Hid (¬ lineOk n f) := fun h => by have := h.1; omega
        clear hr hn
        go_wp2
        go_ret
        exact ⟨Or.inr ⟨HW.out f rfl n rfl HQ.out, rfl⟩, rfl⟩
      by_cases hok : okC n f
      · have HCK : Hid (Calls Try.prog 20 #[.slice x n cc] w fun e w' => e = .returned .nilIface ∧ w' = w) := check_ok x cc n f w hr hok
        have HOK : Hid (okC n f) := hok
        have HX : Hid (Row w x n f) := hr
        clear hr hn hok
        go_wp2_with fail
        refine HCK.out.mono ?_
        rintro e w' ⟨rfl, rfl⟩
        go_wp2
        go_loop [6] (fun i => ∃ j : Nat, j ≤ n ∧ i = .int .i64 j ∧ Hid (∀ i, i < j → f i ≤ 100000000000)) (fun i => n - (intOf i).toNat)
        case atStart => exact ⟨0, Nat.zero_le _, rfl, fun i hi => by omega⟩
        case round =>
          obtain ⟨j, hj, rfl, HJ⟩ := hrel
          by_cases hjn : j < n
          · obtain ⟨b1, off, rfl⟩ := HX.out.some (by omega)
            have c1 := HX.out.at hjn
            by_cases hv : 100000000000 < f j
            · have HQ : Hid (¬ lineOk n f) := fun h => by have := h.2.2 j hjn; omega
              go_wp2
              go_ret
              exact ⟨Or.inr ⟨HW.out f rfl n rfl HQ.out, rfl⟩, rfl⟩
            · have HJ' : Hid (∀ i, i < j + 1 → f i ≤ 100000000000) := fun i hi => by
                by_cases e : i = j
                · subst e; omega
                · exact HJ.out i (by omega)
              go_wp2
              go_round
              case rel => exact ⟨j + 1, by omega, by go_num, HJ'⟩
              case measure => simp [intOf]; omega
          · obtain rfl : j = n := by omega
            go_wp2
            go_round
            case rel => exact ⟨k + 1, by omega, by go_num, HM.out f rfl j rfl ⟨by omega, HOK.out, HJ.out⟩⟩
            case measure => simp [intOf]; omega
      · have HCK : Hid (Calls Try.prog 20 #[.slice x n cc] w fun e w' => e = .returned (.iface 45 (.int .i64 (curveE n f))) ∧ w' = w) := check_no x cc n f w hn hr hok
        have HQ : Hid (¬ lineOk n f) := fun h => hok h.2.1
        clear hr hn hok
        go_wp2_with fail
        refine HCK.out.mono ?_
        rintro e w' ⟨rfl, rfl⟩
        go_wp2
        go_ret
        exact ⟨Or.inr ⟨HW.out f rfl n rfl HQ.out, rfl⟩, rfl⟩
    · obtain rfl : k = m := by omega
      go_wp2
      go_ret
      exact ⟨Or.inl ⟨HF.out, rfl⟩, rfl⟩

theorem same_any (x y : Option Addr) (cx cy n : Nat) (f g : Nat → Int) (w : World) (hm : n ≤ maxLen) (hx : Row w x n f) (hy : Row w y n g) (he : ∀ i, i < n → f i = g i) :
    Calls Try.prog 13 #[.slice x n cx, .slice y n cy] w fun e w' => e = .returned (.bool true) ∧ ∃ q, w' = w.drewN q := by
  unfold maxLen at hm
  have HX : Hid (Row w x n f) := hx
  have HY : Hid (Row w y n g) := hy
  have HE : Hid (∀ i, i < n → f i = g i) := he
  clear hx hy he
  go_enter Try.func13, Try.ntmps13
  go_wp2
  go_loopw [5] (fun i wr => ∃ k : Nat, k ≤ n ∧ i = .int .i64 k ∧ ∃ q, wr = w.drewN q) (fun i _ => n - (intOf i).toNat)
  case atStart => exact ⟨0, Nat.zero_le _, rfl, 0, rfl⟩
  case round =>
    obtain ⟨k, hk, rfl, q, rfl⟩ := hrel
    by_cases hlt : k < n
    · obtain ⟨b, off, rfl⟩ := HX.out.some (by omega)
      obtain ⟨b', off', rfl⟩ := HY.out.some (by omega)
      have c0 := HX.out.at hlt
      have c1 := HY.out.at hlt
      rw [← HE.out k hlt] at c1
      generalize f k = u at *
      go_wp2
      go_quiet (fail)
      go_wp2
      go_roundw
      case rel => exact ⟨k + 1, by omega, by go_num, _, rfl⟩
      case measure => simp [intOf]; omega
    · go_wp2
      go_ret
      exact ⟨rfl, _, rfl⟩
theorem same_two (x y : Option Addr) (cx cy n1 n2 : Nat) (hn : n1 = n2) (f g : Nat → Int) (w : World) (hm : n1 ≤ maxLen) (hx : Row w x n1 f) (hy : Row w y n2 g) (he : ∀ i, i < n1 → f i = g i) :
    Calls Try.prog 13 #[.slice x n1 cx, .slice y n2 cy] w fun e w' => e = .returned (.bool true) ∧ ∃ q, w' = w.drewN q := by
  subst hn
  exact same_any x y cx cy n1 f g w hm hx hy he
theorem lineOk.conv {n m : Nat} {f g : Nat → Int} (h1 : lineOk n f) (h2 : lineOk m g) : okC (min n m) (conv f g) ∧ ∀ t, t < min n m → Go.Proofs.Ytiiekmjkgdcglaa.conv f g t ≤ 200000000000 := by
  have key : ∀ t, t < min n m → Go.Proofs.Ytiiekmjkgdcglaa.conv f g t ≤ 200000000000 := fun t ht => by
    have := conv_top (a := f) (b := g) (t := t) (h1.2.2 0 (by omega)) (h2.2.2 t (by omega))
    omega
  exact ⟨okC_conv h1.2.1 h2.2.1 fun t ht => by have := key t ht; omega, key⟩
end Go.Proofs.Ytiiekmjkgdcglaa
