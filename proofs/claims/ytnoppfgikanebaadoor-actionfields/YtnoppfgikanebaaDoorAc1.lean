/-
  Actions: how great A may be (action.greatest, a map), and what is wrong of an action (action.flaw). Conditions: a kind of 64 bits.
-/
import Derived.Test.YtnoppfgikanebaaDoorSg
import Derived.Maps.Own
import Derived.Maps.OwnSet
import Derived.Maps.Range
namespace Go.Proofs.YtnoppfgikanebaaDoor
open Go.RowKit Go.Extern.Stop Go.Stop Go.Extern Go.Maps

/-! ### A map from ints to ints -/
theorem tkeyI : Keyed Tryd.prog 3 := int_keyed Tryd.underlying3
theorem tzeroI (w : World) : (zeroValue 3).run Tryd.prog w = .ok (.int .i64 0) w := by kernel_rfl
theorem twfI {x : Int} (h0 : -9223372036854775808 ≤ x) (h1 : x ≤ 9223372036854775807) : (Lit.int .i64 x).wf = true := by
  have e : wrap64 x = x := by have := IntKind.wrap_i64 x; unfold wrap64; omega
  rw [← e]
  exact wrap64_wf _
theorem tkeyOf {z : Int} (h0 : -9223372036854775808 ≤ z) (h1 : z ≤ 9223372036854775807) : keyOf Tryd.prog 3 (.int .i64 z) = some (.int .i64 z) := keyOf_int_mk Tryd.underlying3 (twfI h0 h1)
def updZ {α : Type} (f : Int → α) (k : Int) (v : α) : Int → α := fun z => if z = k then v else f z
/-- What it tells: g of each key, and whether it is there. -/
def Tb (w : World) (mb c : Nat) (g : Int → Int) (h : Int → Bool) : Prop := ∃ D : DataW Unit, w.ownsMap Tryd.prog 3 (plainElem Tryd.prog 3) mb c D ∧ ∀ z : Int, Maps.has D (.int .i64 z) = h z ∧ D.atKey (.int .i64 z) (.lit (.int .i64 0)) = .lit (.int .i64 (g z))
theorem Tb.lt {w : World} {mb c : Nat} {g : Int → Int} {h : Int → Bool} (t : Tb w mb c g h) : mb < w.heap.size := by
  obtain ⟨D, h1, _⟩ := t
  exact h1.lt
theorem Tb.kept {w w' : World} {mb c : Nat} {g : Int → Int} {h : Int → Bool} (t : Tb w mb c g h) (hb : w'.heap[mb]? = w.heap[mb]?) : Tb w' mb c g h := by
  obtain ⟨D, ⟨es, clock, g1, g2⟩, h2⟩ := t
  exact ⟨D, ⟨es, clock, hb.trans g1, g2⟩, h2⟩
theorem Tb.below {w w' : World} {mb c : Nat} {g : Int → Int} {h : Int → Bool} (t : Tb w mb c g h) (hb : Below w.heap.size w w') : Tb w' mb c g h := t.kept (hb.block mb t.lt)
theorem Tb.made (w : World) : Tb (w.alloc (.map #[] 0)) w.heap.size 0 (fun _ => 0) (fun _ => false) := ⟨.map [], World.ownsMap_made w _ _ _, fun _ => ⟨rfl, rfl⟩⟩
theorem Tb.upd {w : World} {mb c : Nat} {g : Int → Int} {h : Int → Bool} (t : Tb w mb c g h) (k x : Int) (hk0 : -9223372036854775808 ≤ k) (hk1 : k ≤ 9223372036854775807) (hx0 : -9223372036854775808 ≤ x) (hx1 : x ≤ 9223372036854775807) (hc : c < 1000) :
    ∃ w', (Instr.mapUpdate 56 (.map (some mb)) (.int .i64 k) (.int .i64 x)).run Tryd.prog w = .ok () w' ∧ Tb w' mb (c + 1) (updZ g k x) (updZ h k true) ∧ w.grownBy w' (some mb) := by
  obtain ⟨D, g1, g2⟩ := t
  obtain ⟨w', hrun, hown, hg⟩ := g1.update tkeyI Tryd.underlying56 (by unfold maxLen; omega) (tkeyOf hk0 hk1) (plainElem_int Tryd.underlying3 (twfI hx0 hx1))
  refine ⟨w', hrun, ⟨_, hown, fun z => ?_⟩, hg⟩
  by_cases e : z = k
  · subst e
    simp only [updZ, if_true]
    exact ⟨has_put_same g1.isMap (tkeyI.key (tkeyOf hk0 hk1)) _, atKey_put_same g1.isMap (tkeyI.key (tkeyOf hk0 hk1)) _ _⟩
  · have hne : (Lit.int .i64 z) ≠ Lit.int .i64 k := by
      intro h
      simp only [Lit.int.injEq, true_and] at h
      exact e h
    simp only [updZ, if_neg e]
    rw [has_put_other hne, atKey_put_other hne]
    exact g2 z
theorem Tb.look {w : World} {mb c : Nat} {g : Int → Int} {h : Int → Bool} (t : Tb w mb c g h) (z : Int) (h0 : -9223372036854775808 ≤ z) (h1 : z ≤ 9223372036854775807) : (Instr.lookup 56 (.map (some mb)) (.int .i64 z) true).run Tryd.prog w = .ok (.tuple #[.int .i64 (g z), .bool (h z)]) w := by
  obtain ⟨D, g1, g2⟩ := t
  obtain ⟨v, ps, hrun, hv⟩ := g1.look_ok tkeyI Tryd.underlying56 (tzeroI w) (plainElem_int (H := Unit) Tryd.underlying3 (by decide)) (tkeyOf h0 h1)
  obtain ⟨c, rfl, hc, _⟩ := plainElem_int_inv Tryd.underlying3 hv
  simp only [Prod.mk.injEq] at hc
  have e := hc.1
  rw [(g2 z).2] at e
  have e' : g z = c := by simpa using e
  rw [e', ← (g2 z).1]
  exact hrun

/-! ### How great A may be -/
def topA (n m : Nat) (z : Int) : Int := if z = 3 then 255 else if z = 4 then 7 else if z = 5 then 15 else if z = 6 then 7 else if z = 7 then n else if z = 8 then 255 else if z = 9 then (m : Int) - 1 else if z = 10 then 10000 else 0
def knownA (z : Int) : Bool := decide (1 ≤ z ∧ z ≤ 10)
def MostM (w : World) (mb n m : Nat) : Prop := Tb w mb 10 (topA n m) knownA
theorem top_eq (n m : Nat) : updZ (updZ (updZ (updZ (updZ (updZ (updZ (updZ (updZ (updZ (fun _ => (0 : Int)) 1 0) 2 0) 3 255) 4 7) 5 15) 6 7) 7 (n : Int)) 8 255) 9 ((m : Int) - 1)) 10 10000 = topA n m := by
  funext z
  simp only [updZ, topA]
  repeat' split
  all_goals first | rfl | omega
theorem known_eq : updZ (updZ (updZ (updZ (updZ (updZ (updZ (updZ (updZ (updZ (fun _ => false) 1 true) 2 true) 3 true) 4 true) 5 true) 6 true) 7 true) 8 true) 9 true) 10 true = knownA := by
  funext z
  simp only [updZ, knownA]
  repeat' split
  all_goals first | (subst_vars; rfl) | (symm; rw [decide_eq_false_iff_not]; omega)

set_option maxHeartbeats 2000000 in
theorem greatest_any (n m : Nat) (hn : n ≤ 1000000) (hm : m ≤ 1000000) (w : World) :
    Calls Tryd.prog 14 #[.int .i64 n, .int .i64 m] w fun e w' => e = .returned (.map (some w.heap.size)) ∧ MostM w' w.heap.size n m ∧ Below w.heap.size w w' := by
  have t0 := Tb.made w
  obtain ⟨w1, r1, t1, g1⟩ := t0.upd 1 0 (by decide) (by decide) (by decide) (by decide) (by omega)
  obtain ⟨w2, r2, t2, g2⟩ := t1.upd 2 0 (by decide) (by decide) (by decide) (by decide) (by omega)
  obtain ⟨w3, r3, t3, g3⟩ := t2.upd 3 255 (by decide) (by decide) (by decide) (by decide) (by omega)
  obtain ⟨w4, r4, t4, g4⟩ := t3.upd 4 7 (by decide) (by decide) (by decide) (by decide) (by omega)
  obtain ⟨w5, r5, t5, g5⟩ := t4.upd 5 15 (by decide) (by decide) (by decide) (by decide) (by omega)
  obtain ⟨w6, r6, t6, g6⟩ := t5.upd 6 7 (by decide) (by decide) (by decide) (by decide) (by omega)
  obtain ⟨w7, r7, t7, g7⟩ := t6.upd 7 n (by decide) (by decide) (by omega) (by omega) (by omega)
  obtain ⟨w8, r8, t8, g8⟩ := t7.upd 8 255 (by decide) (by decide) (by decide) (by decide) (by omega)
  obtain ⟨w9, r9, t9, g9⟩ := t8.upd 9 ((m : Int) - 1) (by decide) (by decide) (by omega) (by omega) (by omega)
  obtain ⟨w10, r10, t10, g10⟩ := t9.upd 10 10000 (by decide) (by decide) (by decide) (by decide) (by omega)
  have HT : Hid (Tb w10 w.heap.size 10 (topA n m) knownA) := by
    rw [← top_eq, ← known_eq]
    exact t10
  have HB : Hid (Below w.heap.size w w10) := by
    have h0 : Below w.heap.size w (w.alloc (.map #[] 0)) := below_alloc_ (Below.refl _ _) _
    have hr : ∀ k, some w.heap.size = some k → w.heap.size ≤ k := fun k hk => by simp at hk; omega
    exact below_grown_ (below_grown_ (below_grown_ (below_grown_ (below_grown_ (below_grown_ (below_grown_ (below_grown_ (below_grown_ (below_grown_ h0 g1 hr) g2 hr) g3 hr) g4 hr) g5 hr) g6 hr) g7 hr) g8 hr) g9 hr) g10 hr
  have e9 : IntKind.i64.wrap ((m : Int) - 1) = (m : Int) - 1 := by rw [IntKind.wrap_i64]; omega
  clear t0 t1 t2 t3 t4 t5 t6 t7 t8 t9 t10 g1 g2 g3 g4 g5 g6 g7 g8 g9 g10
  go_enter Tryd.func14, Tryd.ntmps14
  have hmm := @run_makeMap Tryd.prog
  go_wp2
  go_ret
  exact ⟨rfl, HT.out, HB.out⟩

/-! ### What is wrong of an action -/
structure Ac where
  k : Int
  a : Int
  b : Int
def Ac.cells (x : Ac) : List Value := [.int .i64 x.k, .int .i64 x.a, .int .i64 x.b]
theorem Ac.cells_len (x : Ac) : x.cells.length = 3 := rfl
structure Ac.fit (x : Ac) : Prop where
  lo : -9223372036854775808 ≤ x.k
  hi : x.k ≤ 9223372036854775807
def argA (x : Ac) : Prop := (1 ≤ x.k ∧ x.k ≤ 10) ∧ (x.k ≤ 2 → x.a = 0) ∧ (x.k < 8 → x.b = 0)
def rngA (n m : Nat) (x : Ac) : Prop := 0 ≤ x.a ∧ x.a ≤ topA n m x.k ∧ 0 ≤ x.b ∧ x.b ≤ n
instance (x : Ac) : Decidable (argA x) := inferInstanceAs (Decidable (_ ∧ _))
instance (n m : Nat) (x : Ac) : Decidable (rngA n m x) := inferInstanceAs (Decidable (_ ∧ _))
def flawA (n m : Nat) (x : Ac) : Int := if argA x then (if rngA n m x then 0 else 2) else 1
set_option maxRecDepth 100000 in
set_option maxHeartbeats 4000000 in
theorem flaw_any (n m : Nat) (x : Ac) (hx : x.fit) (mb : Nat) (w : World) (h : MostM w mb n m) :
    Calls Tryd.prog 15 #[.agg #[.int .i64 x.k, .int .i64 x.a, .int .i64 x.b], .map (some mb), .int .i64 n] w fun e w' => e = .returned (.int .i64 (flawA n m x)) ∧ Below w.heap.size w w' := by
  obtain ⟨k, a, b⟩ := x
  have hT : MostM (w.alloc (.cells #[.int .i64 k, .int .i64 a, .int .i64 b] 38)) mb n m := Tb.below h (below_alloc_ (Below.refl _ _) _)
  have hl := hT.look k hx.lo hx.hi
  have HB : Hid (Below w.heap.size w (w.alloc (.cells #[.int .i64 k, .int .i64 a, .int .i64 b] 38))) := below_alloc_ (Below.refl _ _) _
  clear h hT hx
  have hn0 : ¬ (n : Int) < 0 := by omega
  simp only
  generalize ht : topA n m k = top at hl
  by_cases hk : 1 ≤ k ∧ k ≤ 10
  · rw [show knownA k = true from decide_eq_true hk] at hl
    by_cases h2 : k ≤ 2
    · have h8 : k < 8 := by omega
      have ht0 : top = 0 := by rw [← ht]; unfold topA; repeat (rw [if_neg (by omega)])
      subst ht0
      by_cases ha : a = 0
      · subst ha
        by_cases hb : b = 0
        · subst hb
          have HE : Hid (flawA n m ⟨k, 0, 0⟩ = 0) := by show flawA _ _ _ = _; unfold flawA; rw [if_pos (show argA _ from ⟨⟨by show 1 ≤ k; omega, by show k ≤ 10; omega⟩, fun (h : k ≤ 2) => (by first | rfl | (exfalso; omega)), fun (h : k < 8) => (by first | rfl | (exfalso; omega))⟩), if_pos (by unfold rngA; simp only; rw [ht]; omega)]
          clear ht
          go_enter Tryd.func15, Tryd.ntmps15
          go_wp2
          go_ret
          exact ⟨by rw [HE.out]; rfl, HB.out⟩
        · skip
          have HE : Hid (flawA n m ⟨k, 0, b⟩ = 1) := by show flawA _ _ _ = _; unfold flawA; rw [if_neg (by unfold argA; simp only; omega)]
          clear ht
          go_enter Tryd.func15, Tryd.ntmps15
          go_wp2
          go_ret
          exact ⟨by rw [HE.out]; rfl, HB.out⟩
      · skip
        have HE : Hid (flawA n m ⟨k, a, b⟩ = 1) := by show flawA _ _ _ = _; unfold flawA; rw [if_neg (by unfold argA; simp only; omega)]
        clear ht
        go_enter Tryd.func15, Tryd.ntmps15
        go_wp2
        go_ret
        exact ⟨by rw [HE.out]; rfl, HB.out⟩
    · by_cases h8 : k < 8
      · by_cases hb : b = 0
        · subst hb
          by_cases r0 : a < 0
          · skip
            have HE : Hid (flawA n m ⟨k, a, 0⟩ = 2) := by show flawA _ _ _ = _; unfold flawA; rw [if_pos (show argA _ from ⟨⟨by show 1 ≤ k; omega, by show k ≤ 10; omega⟩, fun (h : k ≤ 2) => (by first | rfl | (exfalso; omega)), fun (h : k < 8) => (by first | rfl | (exfalso; omega))⟩), if_neg (by unfold rngA; simp only; rw [ht]; omega)]
            clear ht
            go_enter Tryd.func15, Tryd.ntmps15
            go_wp2
            go_ret
            exact ⟨by rw [HE.out]; rfl, HB.out⟩
          by_cases r1 : top < a
          · skip
            have HE : Hid (flawA n m ⟨k, a, 0⟩ = 2) := by show flawA _ _ _ = _; unfold flawA; rw [if_pos (show argA _ from ⟨⟨by show 1 ≤ k; omega, by show k ≤ 10; omega⟩, fun (h : k ≤ 2) => (by first | rfl | (exfalso; omega)), fun (h : k < 8) => (by first | rfl | (exfalso; omega))⟩), if_neg (by unfold rngA; simp only; rw [ht]; omega)]
            clear ht
            go_enter Tryd.func15, Tryd.ntmps15
            go_wp2
            go_ret
            exact ⟨by rw [HE.out]; rfl, HB.out⟩
          have HE : Hid (flawA n m ⟨k, a, 0⟩ = 0) := by show flawA _ _ _ = _; unfold flawA; rw [if_pos (show argA _ from ⟨⟨by show 1 ≤ k; omega, by show k ≤ 10; omega⟩, fun (h : k ≤ 2) => (by first | rfl | (exfalso; omega)), fun (h : k < 8) => (by first | rfl | (exfalso; omega))⟩), if_pos (by unfold rngA; simp only; rw [ht]; omega)]
          clear ht
          go_enter Tryd.func15, Tryd.ntmps15
          go_wp2
          go_ret
          exact ⟨by rw [HE.out]; rfl, HB.out⟩
        · skip
          have HE : Hid (flawA n m ⟨k, a, b⟩ = 1) := by show flawA _ _ _ = _; unfold flawA; rw [if_neg (by unfold argA; simp only; omega)]
          clear ht
          go_enter Tryd.func15, Tryd.ntmps15
          go_wp2
          go_ret
          exact ⟨by rw [HE.out]; rfl, HB.out⟩
      · skip
        by_cases r2 : a < 0
        · skip
          have HE : Hid (flawA n m ⟨k, a, b⟩ = 2) := by show flawA _ _ _ = _; unfold flawA; rw [if_pos (show argA _ from ⟨⟨by show 1 ≤ k; omega, by show k ≤ 10; omega⟩, fun (h : k ≤ 2) => (by first | rfl | (exfalso; omega)), fun (h : k < 8) => (by first | rfl | (exfalso; omega))⟩), if_neg (by unfold rngA; simp only; rw [ht]; omega)]
          clear ht
          go_enter Tryd.func15, Tryd.ntmps15
          go_wp2
          go_ret
          exact ⟨by rw [HE.out]; rfl, HB.out⟩
        by_cases r3 : top < a
        · skip
          have HE : Hid (flawA n m ⟨k, a, b⟩ = 2) := by show flawA _ _ _ = _; unfold flawA; rw [if_pos (show argA _ from ⟨⟨by show 1 ≤ k; omega, by show k ≤ 10; omega⟩, fun (h : k ≤ 2) => (by first | rfl | (exfalso; omega)), fun (h : k < 8) => (by first | rfl | (exfalso; omega))⟩), if_neg (by unfold rngA; simp only; rw [ht]; omega)]
          clear ht
          go_enter Tryd.func15, Tryd.ntmps15
          go_wp2
          go_ret
          exact ⟨by rw [HE.out]; rfl, HB.out⟩
        by_cases r4 : b < 0
        · skip
          have HE : Hid (flawA n m ⟨k, a, b⟩ = 2) := by show flawA _ _ _ = _; unfold flawA; rw [if_pos (show argA _ from ⟨⟨by show 1 ≤ k; omega, by show k ≤ 10; omega⟩, fun (h : k ≤ 2) => (by first | rfl | (exfalso; omega)), fun (h : k < 8) => (by first | rfl | (exfalso; omega))⟩), if_neg (by unfold rngA; simp only; rw [ht]; omega)]
          clear ht
          go_enter Tryd.func15, Tryd.ntmps15
          go_wp2
          go_ret
          exact ⟨by rw [HE.out]; rfl, HB.out⟩
        by_cases r5 : (n : Int) < b
        · skip
          have HE : Hid (flawA n m ⟨k, a, b⟩ = 2) := by show flawA _ _ _ = _; unfold flawA; rw [if_pos (show argA _ from ⟨⟨by show 1 ≤ k; omega, by show k ≤ 10; omega⟩, fun (h : k ≤ 2) => (by first | rfl | (exfalso; omega)), fun (h : k < 8) => (by first | rfl | (exfalso; omega))⟩), if_neg (by unfold rngA; simp only; rw [ht]; omega)]
          clear ht
          go_enter Tryd.func15, Tryd.ntmps15
          go_wp2
          go_ret
          exact ⟨by rw [HE.out]; rfl, HB.out⟩
        have HE : Hid (flawA n m ⟨k, a, b⟩ = 0) := by show flawA _ _ _ = _; unfold flawA; rw [if_pos (show argA _ from ⟨⟨by show 1 ≤ k; omega, by show k ≤ 10; omega⟩, fun (h : k ≤ 2) => (by first | rfl | (exfalso; omega)), fun (h : k < 8) => (by first | rfl | (exfalso; omega))⟩), if_pos (by unfold rngA; simp only; rw [ht]; omega)]
        clear ht
        go_enter Tryd.func15, Tryd.ntmps15
        go_wp2
        go_ret
        exact ⟨by rw [HE.out]; rfl, HB.out⟩
  · rw [show knownA k = false from decide_eq_false hk] at hl
    have HE : Hid (flawA n m ⟨k, a, b⟩ = 1) := by show flawA _ _ _ = _; unfold flawA; rw [if_neg (by unfold argA; simp only; omega)]
    clear ht
    go_enter Tryd.func15, Tryd.ntmps15
    go_wp2
    go_ret
    exact ⟨by rw [HE.out]; rfl, HB.out⟩
end Go.Proofs.YtnoppfgikanebaaDoor
