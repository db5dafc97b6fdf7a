/-
  package filter: which packets a filter means: what Meant returns, of whatever filter. Conditions: the filter lies in memory.
-/
import Derived.Test.YtibecinojkkjpaaDoorFl2
import Derived.Deep.RegionHeld3
namespace Go.Proofs.YtibecinojkkjpaaDoor
open Go.RowKit Go.Extern.Stop Go.Stop Go.Extern

theorem seg_slice {w : World} {e : TypeId} {sl : Value} {n : Nat} {vs : List Value} (h : Seg w e 1 sl n vs) : ∃ x c, sl = .slice x n c ∧ ∀ (i : Nat) u, vs[i]? = some u → ∃ g off, x = some ⟨g, off, none⟩ ∧ w.cell? ⟨g, off + i, none⟩ = some u ∧ g < w.heap.size := by
  rcases h.form with ⟨h1, h2, h3⟩ | ⟨b, off, cap, h1, h2, h3, h4, h5⟩
  · exact ⟨none, 0, by rw [h1, h2], fun i u hi => by rw [h3] at hi; simp at hi⟩
  · exact ⟨_, _, h1, fun i u hi => ⟨b, off, rfl, h5 i u hi, h4⟩⟩
theorem of_any (f : Nat) (x : It) (w : World) (hf : f < 5) :
    Calls Tryd.prog 101 #[.int .i64 f, .agg #[.int .i64 x.a, .int .i64 x.l, .int .i64 x.f, .int .i64 x.b, .int .i64 x.m]] w fun e w' => e = .returned (.int .i64 (fld x f)) ∧ Below w.heap.size w w' := by
  obtain ⟨xa, xl, xf, xb, xm⟩ := x
  rcases (by omega : f = 0 ∨ f = 1 ∨ f = 2 ∨ f = 3 ∨ f = 4) with rfl | rfl | rfl | rfl | rfl
  all_goals
    go_enter Tryd.func101, Tryd.ntmps101
    go_wp2
    go_ret
    exact ⟨rfl, below_alloc_ (Below.refl _ _) _⟩
/-- A filter's value, as Meant is asked of it. -/
def MeansAt (w : World) (v : Value) (x : It) (r : Bool) : Prop := ∃ (ty : TypeId) (rv : Value) (f : FuncId) (rc : Value), v = .iface ty rv ∧ (∀ W : World, (Go.method 266 ty rv "Meant").run Tryd.prog W = .ok (f, rc) W) ∧ (∀ (args : Array Value) (W : World), (callFunc f args).run Tryd.prog W = .ok (.enter f args) W) ∧
  ∀ w1, Below w.heap.size w w1 → Calls Tryd.prog f #[rc, .agg #[.int .i64 x.a, .int .i64 x.l, .int .i64 x.f, .int .i64 x.b, .int .i64 x.m]] w1 fun e w' => e = .returned (.bool r) ∧ Below w1.heap.size w1 w'
theorem mAny (W : World) : (Go.method 266 75 (.agg #[]) "Meant").run Tryd.prog W = .ok (93, .agg #[]) W := by kernel_rfl
theorem mSpan (a b c : Value) (W : World) : (Go.method 266 95 (.agg #[a, b, c]) "Meant").run Tryd.prog W = .ok (99, .agg #[a, b, c]) W := by kernel_rfl
theorem mBits (a b : Value) (W : World) : (Go.method 266 114 (.agg #[a, b]) "Meant").run Tryd.prog W = .ok (106, .agg #[a, b]) W := by kernel_rfl
theorem mNot (a : Value) (W : World) : (Go.method 266 87 (.agg #[a]) "Meant").run Tryd.prog W = .ok (97, .agg #[a]) W := by kernel_rfl
theorem mAll (a : Addr) (W : World) : (Go.method 266 111 (.pointer (some a)) "Meant").run Tryd.prog W = .ok (104, .pointer (some a)) W := by kernel_rfl
theorem mSome (a : Addr) (W : World) : (Go.method 266 108 (.pointer (some a)) "Meant").run Tryd.prog W = .ok (102, .pointer (some a)) W := by kernel_rfl
theorem eAny (args : Array Value) (W : World) : (callFunc 93 args).run Tryd.prog W = .ok (.enter 93 args) W := enters_of Tryd.func93 (by kernel_rfl) rfl args W
theorem eSpan (args : Array Value) (W : World) : (callFunc 99 args).run Tryd.prog W = .ok (.enter 99 args) W := enters_of Tryd.func99 (by kernel_rfl) rfl args W
theorem eBits (args : Array Value) (W : World) : (callFunc 106 args).run Tryd.prog W = .ok (.enter 106 args) W := enters_of Tryd.func106 (by kernel_rfl) rfl args W
theorem eNot (args : Array Value) (W : World) : (callFunc 97 args).run Tryd.prog W = .ok (.enter 97 args) W := enters_of Tryd.func97 (by kernel_rfl) rfl args W
theorem eAll (args : Array Value) (W : World) : (callFunc 104 args).run Tryd.prog W = .ok (.enter 104 args) W := enters_of Tryd.func104 (by kernel_rfl) rfl args W
theorem eSome (args : Array Value) (W : World) : (callFunc 102 args).run Tryd.prog W = .ok (.enter 102 args) W := enters_of Tryd.func102 (by kernel_rfl) rfl args W
theorem MeansAt.below {w w' : World} {v : Value} {x : It} {r : Bool} (h : MeansAt w v x r) (hb : Below w.heap.size w w') : MeansAt w' v x r := by
  obtain ⟨ty, rv, f, rc, h1, h2, h3, h4⟩ := h
  exact ⟨ty, rv, f, rc, h1, h2, h3, fun w1 hb1 => h4 w1 (hb.trans (hb1.mono hb.size))⟩
theorem meant_leaf1 (x : It) (w1 : World) : Calls Tryd.prog 93 #[.agg #[], .agg #[.int .i64 x.a, .int .i64 x.l, .int .i64 x.f, .int .i64 x.b, .int .i64 x.m]] w1 fun e w' => e = .returned (.bool true) ∧ Below w1.heap.size w1 w' := by
  go_enter Tryd.func93, Tryd.ntmps93
  go_wp2
  go_ret
  exact ⟨rfl, below_alloc_ (below_alloc_ (Below.refl _ _) _) _⟩
theorem meant_span (x : It) (f : Nat) (lo hi : Int) (w1 : World) (hf : f < 5) : Calls Tryd.prog 99 #[.agg #[.int .i64 f, .int .i64 lo, .int .i64 hi], .agg #[.int .i64 x.a, .int .i64 x.l, .int .i64 x.f, .int .i64 x.b, .int .i64 x.m]] w1 fun e w' => e = .returned (.bool (decide (lo ≤ fld x f) && decide (fld x f ≤ hi))) ∧ Below w1.heap.size w1 w' := by
  have HOF : Hid (∀ w2, Calls Tryd.prog 101 #[.int .i64 f, .agg #[.int .i64 x.a, .int .i64 x.l, .int .i64 x.f, .int .i64 x.b, .int .i64 x.m]] w2 fun e w' => e = .returned (.int .i64 (fld x f)) ∧ Below w2.heap.size w2 w') := fun w2 => of_any f x w2 hf
  generalize fld x f = q at *
  obtain ⟨xa, xl, xf, xb, xm⟩ := x
  simp only at HOF ⊢
  go_enter Tryd.func99, Tryd.ntmps99
  go_wp2_with fail
  refine (HOF.out _).mono ?_
  rintro e w2 ⟨rfl, hb2⟩
  have k2 : w2.heap[w1.heap.size]? = some (.cells #[.int .i64 f, .int .i64 lo, .int .i64 hi] 95 (0, 0)) := (hb2.block w1.heap.size (by simp; omega)).trans ((Below.heap_alloc _ _ _ (by simp)).trans (new_block _ _))
  have k0 : w2.cell? ⟨w1.heap.size, 1, none⟩ = some (.int .i64 lo) := by simp [World.cell?, k2]
  have k1 : w2.cell? ⟨w1.heap.size, 2, none⟩ = some (.int .i64 hi) := by simp [World.cell?, k2]
  have hbA : Below w1.heap.size w1 ((w1.alloc (.cells #[.int .i64 f, .int .i64 lo, .int .i64 hi] 95)).alloc (.cells #[.int .i64 xa, .int .i64 xl, .int .i64 xf, .int .i64 xb, .int .i64 xm] 23)) := below_alloc_ (below_alloc_ (Below.refl _ _) _) _
  have HB : Hid (Below w1.heap.size w1 w2) := hbA.trans (hb2.mono hbA.size)
  clear k2 hbA hb2
  by_cases h1 : lo ≤ q
  · have d1 : decide (lo ≤ q) = true := by simpa using h1
    clear h1
    go_wp2
    go_ret
    exact ⟨by rw [d1]; rfl, HB.out⟩
  · have d1 : decide (lo ≤ q) = false := by simpa using h1
    clear h1
    go_wp2
    go_ret
    exact ⟨by rw [d1]; rfl, HB.out⟩
set_option maxHeartbeats 2000000 in
theorem meant_bits (x : It) (f : Nat) (n : Int) (w1 : World) (hf : f < 5) : Calls Tryd.prog 106 #[.agg #[.int .i64 f, .int .i64 n], .agg #[.int .i64 x.a, .int .i64 x.l, .int .i64 x.f, .int .i64 x.b, .int .i64 x.m]] w1 fun e w' => e = .returned (.bool (bandI (fld x f) n == n)) ∧ Below w1.heap.size w1 w' := by
  have HOF : Hid (∀ w2, Calls Tryd.prog 101 #[.int .i64 f, .agg #[.int .i64 x.a, .int .i64 x.l, .int .i64 x.f, .int .i64 x.b, .int .i64 x.m]] w2 fun e w' => e = .returned (.int .i64 (fld x f)) ∧ Below w2.heap.size w2 w') := fun w2 => of_any f x w2 hf
  generalize fld x f = q at *
  obtain ⟨xa, xl, xf, xb, xm⟩ := x
  simp only at HOF ⊢
  go_enter Tryd.func106, Tryd.ntmps106
  go_wp2_with fail
  have hbA : Below w1.heap.size w1 ((w1.alloc (.cells #[.int .i64 f, .int .i64 n] 114)).alloc (.cells #[.int .i64 xa, .int .i64 xl, .int .i64 xf, .int .i64 xb, .int .i64 xm] 23)) := below_alloc_ (below_alloc_ (Below.refl _ _) _) _
  have hsz : w1.heap.size + 2 = ((w1.alloc (.cells #[.int .i64 f, .int .i64 n] 114)).alloc (.cells #[.int .i64 xa, .int .i64 xl, .int .i64 xf, .int .i64 xb, .int .i64 xm] 23)).heap.size := by simp
  have k2 : ((w1.alloc (.cells #[.int .i64 f, .int .i64 n] 114)).alloc (.cells #[.int .i64 xa, .int .i64 xl, .int .i64 xf, .int .i64 xb, .int .i64 xm] 23)).heap[w1.heap.size]? = some (.cells #[.int .i64 f, .int .i64 n] 114 (0, 0)) := (Below.heap_alloc _ _ _ (by simp)).trans (new_block _ _)
  have k3 : ((w1.alloc (.cells #[.int .i64 f, .int .i64 n] 114)).alloc (.cells #[.int .i64 xa, .int .i64 xl, .int .i64 xf, .int .i64 xb, .int .i64 xm] 23)).heap[w1.heap.size + 1]? = some (.cells #[.int .i64 xa, .int .i64 xl, .int .i64 xf, .int .i64 xb, .int .i64 xm] 23 (0, 0)) := new_block_ (by simp)
  generalize (w1.alloc (.cells #[.int .i64 f, .int .i64 n] 114)).alloc (.cells #[.int .i64 xa, .int .i64 xl, .int .i64 xf, .int .i64 xb, .int .i64 xm] 23) = wc at *
  have HSC : Hid (∀ w', Below wc.heap.size wc w' → w'.cell? ⟨w1.heap.size, 0, none⟩ = some (.int .i64 f) ∧ w'.cell? ⟨w1.heap.size, 1, none⟩ = some (.int .i64 n) ∧ w'.cell? ⟨w1.heap.size + 1, 0, none⟩ = some (.int .i64 xa) ∧ w'.cell? ⟨w1.heap.size + 1, 1, none⟩ = some (.int .i64 xl) ∧ w'.cell? ⟨w1.heap.size + 1, 2, none⟩ = some (.int .i64 xf) ∧ w'.cell? ⟨w1.heap.size + 1, 3, none⟩ = some (.int .i64 xb) ∧ w'.cell? ⟨w1.heap.size + 1, 4, none⟩ = some (.int .i64 xm) ∧ Below wc.heap.size wc w') := by
    intro w' hb
    have e2 := (hb.block w1.heap.size (by omega)).trans k2
    have e3 := (hb.block (w1.heap.size + 1) (by omega)).trans k3
    exact ⟨by simp [World.cell?, e2], by simp [World.cell?, e2], by simp [World.cell?, e3], by simp [World.cell?, e3], by simp [World.cell?, e3], by simp [World.cell?, e3], by simp [World.cell?, e3], hb⟩
  have HBA : Hid (Below w1.heap.size w1 wc) := hbA
  clear k2 k3 hbA
  have HOC : Hid (∀ w', Below wc.heap.size wc w' → Calls Tryd.prog 101 #[.int .i64 f, .agg #[.int .i64 xa, .int .i64 xl, .int .i64 xf, .int .i64 xb, .int .i64 xm]] w' fun e w'' => e = .returned (.int .i64 q) ∧ Below wc.heap.size wc w'') := fun w' hb => (HOF.out w').mono fun e w'' ⟨h1, h2⟩ => ⟨h1, hb.trans (h2.mono hb.size)⟩
  have HE : Hid (∀ w', Below wc.heap.size wc w' → Below w1.heap.size w1 w') := fun w' hb => HBA.out.trans (hb.mono HBA.out.size)
  clear HOF HBA
  go_region_held3 (fun w' => w'.cell? ⟨w1.heap.size, 0, none⟩ = some (.int .i64 f) ∧ w'.cell? ⟨w1.heap.size, 1, none⟩ = some (.int .i64 n) ∧ w'.cell? ⟨w1.heap.size + 1, 0, none⟩ = some (.int .i64 xa) ∧ w'.cell? ⟨w1.heap.size + 1, 1, none⟩ = some (.int .i64 xl) ∧ w'.cell? ⟨w1.heap.size + 1, 2, none⟩ = some (.int .i64 xf) ∧ w'.cell? ⟨w1.heap.size + 1, 3, none⟩ = some (.int .i64 xb) ∧ w'.cell? ⟨w1.heap.size + 1, 4, none⟩ = some (.int .i64 xm) ∧ Below wc.heap.size wc w') ((refine HSC.out _ ?_; first | exact (Below.refl _ _).drew | assumption | exact Below.refl _ _)) ((go_at_call 101; refine (HOC.out _ (by first | exact (Below.refl _ _).drew | assumption | exact Below.refl _ _)).mono ?_; rintro e w' ⟨rfl, hbb⟩; have q3 := (HSC.out _ hbb).2.1))
  go_wp2
  go_ret
  exact ⟨rfl, HE.out _ hbb⟩
theorem meant_not (x : It) {r : Bool} {u : Value} (w : World) (h : MeansAt w u x r) : ∀ w1, Below w.heap.size w w1 → Calls Tryd.prog 97 #[.agg #[u], .agg #[.int .i64 x.a, .int .i64 x.l, .int .i64 x.f, .int .i64 x.b, .int .i64 x.m]] w1 fun e w' => e = .returned (.bool (!r)) ∧ Below w1.heap.size w1 w' := by
  intro w1 hb1
  obtain ⟨ty, rv, f, rc, rfl, hm, he, hc⟩ := h
  have HC : Hid (∀ w2, Below w1.heap.size w1 w2 → Calls Tryd.prog f #[rc, .agg #[.int .i64 x.a, .int .i64 x.l, .int .i64 x.f, .int .i64 x.b, .int .i64 x.m]] w2 fun e w' => e = .returned (.bool r) ∧ Below w2.heap.size w2 w') := fun w2 h2 => hc w2 (hb1.trans (h2.mono hb1.size))
  clear hc hb1
  obtain ⟨xa, xl, xf, xb, xm⟩ := x
  simp only at HC ⊢
  go_enter Tryd.func97, Tryd.ntmps97
  go_wp2_with fail
  have hbA : Below w1.heap.size w1 ((w1.alloc (.cells #[.iface ty rv] 87)).alloc (.cells #[.int .i64 xa, .int .i64 xl, .int .i64 xf, .int .i64 xb, .int .i64 xm] 23)) := below_alloc_ (below_alloc_ (Below.refl _ _) _) _
  refine (HC.out _ hbA).mono ?_
  rintro e w2 ⟨rfl, hb2⟩
  have HB : Hid (Below w1.heap.size w1 w2) := hbA.trans (hb2.mono hbA.size)
  clear hbA hb2
  go_wp2
  go_ret
  exact ⟨rfl, HB.out⟩
set_option maxHeartbeats 2000000 in
theorem meant_all (x : It) {d b : Nat} {sl : Value} {l : List Ft} {vs : List Value} (w : World) (hb : w.heap[b]? = some (.cells #[sl] 112 (0, 0))) (hs : Seg w 31 1 sl l.length vs) (hl : vs.length = l.length) (hx : l.length ≤ maxLen) (hel : ∀ (i : Nat) y u, l[i]? = some y → vs[i]? = some u → MeansAt w u x (means x d y)) :
    ∀ w1, Below w.heap.size w w1 → Calls Tryd.prog 104 #[.pointer (some ⟨b, 0, none⟩), .agg #[.int .i64 x.a, .int .i64 x.l, .int .i64 x.f, .int .i64 x.b, .int .i64 x.m]] w1 fun e w' => e = .returned (.bool (l.all (means x d))) ∧ Below w1.heap.size w1 w' := by
  intro w1 hb1
  obtain ⟨y, c, rfl, hcs⟩ := seg_slice hs
  have c0 : w1.cell? ⟨b, 0, none⟩ = some (.slice y l.length c) := by rw [hb1.cell (p := ⟨b, 0, none⟩) (lt_of_block hb)]; simp [World.cell?, hb]
  have hbl : b < w1.heap.size := Nat.lt_of_lt_of_le (lt_of_block hb) hb1.size
  have HEL : Hid (∀ i, i < l.length → ∃ (t : Ft) (g off : Nat) (ty : TypeId) (rv : Value) (f : FuncId) (rc : Value), l[i]? = some t ∧ y = some ⟨g, off, none⟩ ∧ (∀ w2, Below w1.heap.size w1 w2 → w2.cell? ⟨g, off + i, none⟩ = some (.iface ty rv)) ∧ (∀ W : World, (Go.method 266 ty rv "Meant").run Tryd.prog W = .ok (f, rc) W) ∧ (∀ (args : Array Value) (W : World), (callFunc f args).run Tryd.prog W = .ok (.enter f args) W) ∧ ∀ w2, Below w1.heap.size w1 w2 → Calls Tryd.prog f #[rc, .agg #[.int .i64 x.a, .int .i64 x.l, .int .i64 x.f, .int .i64 x.b, .int .i64 x.m]] w2 fun e w' => e = .returned (.bool (means x d t)) ∧ Below w2.heap.size w2 w') := by
    intro i hi
    obtain ⟨u, hu⟩ : ∃ u, vs[i]? = some u := ⟨_, List.getElem?_eq_getElem (by omega)⟩
    obtain ⟨t, ht⟩ : ∃ t, l[i]? = some t := ⟨_, List.getElem?_eq_getElem hi⟩
    obtain ⟨g, off, e1, e2, e3⟩ := hcs i u hu
    obtain ⟨ty, rv, f, rc, rfl, h2, h3, h4⟩ := hel i t u ht hu
    refine ⟨t, g, off, ty, rv, f, rc, ht, e1, fun w2 h => ?_, h2, h3, fun w2 h => h4 w2 (hb1.trans (h.mono hb1.size))⟩
    have hbb := hb1.trans (h.mono hb1.size)
    rw [hbb.cell (p := ⟨g, off + i, none⟩) e3]; exact e2
  have hxn : (l.length : Int) ≤ 9223372036854775807 := by unfold maxLen at hx; omega
  clear hs hcs hel hb hb1 hx
  have HAT : Hid (∀ i, (∀ j t, j < i → l[j]? = some t → means x d t = true) → i = l.length → l.all (means x d) = true) := by
    intro i h hi
    rw [List.all_eq_true]
    intro t ht
    obtain ⟨j, hj⟩ := List.mem_iff_getElem?.1 ht
    exact h j t (by have := (List.getElem?_eq_some_iff.1 hj).1; omega) hj
  have HAF : Hid (∀ (i : Nat) t, l[i]? = some t → means x d t = false → l.all (means x d) = false) := by
    intro i t hi hm
    rw [List.all_eq_false]
    exact ⟨t, List.mem_of_getElem? hi, by rw [hm]; decide⟩
  obtain ⟨xa, xl, xf, xb, xm⟩ := x
  simp only at HEL ⊢
  generalize hme : means ⟨xa, xl, xf, xb, xm⟩ d = me at *
  go_enter Tryd.func104, Tryd.ntmps104
  go_wp2_with fail
  have hbA : Below w1.heap.size w1 (w1.alloc (.cells #[.int .i64 xa, .int .i64 xl, .int .i64 xf, .int .i64 xb, .int .i64 xm] 23)) := below_alloc_ (Below.refl _ _) _
  have kx : (w1.alloc (.cells #[.int .i64 xa, .int .i64 xl, .int .i64 xf, .int .i64 xb, .int .i64 xm] 23)).heap[w1.heap.size]? = some (.cells #[.int .i64 xa, .int .i64 xl, .int .i64 xf, .int .i64 xb, .int .i64 xm] 23 (0, 0)) := new_block _ _
  have hsz : (w1.alloc (.cells #[.int .i64 xa, .int .i64 xl, .int .i64 xf, .int .i64 xb, .int .i64 xm] 23)).heap.size = w1.heap.size + 1 := by simp
  generalize w1.alloc (.cells #[.int .i64 xa, .int .i64 xl, .int .i64 xf, .int .i64 xb, .int .i64 xm] 23) = w2 at *
  go_loopg [12, 6] l.length (fun g v12 _ wx => ∃ i : Nat, i + g = l.length ∧ v12 = .int .i64 i ∧ Below w2.heap.size w2 wx ∧ ∀ j t, j < i → l[j]? = some t → me t = true)
  case atStart => exact ⟨0, by omega, rfl, Below.refl _ _, fun j t hj => by omega⟩
  case round =>
    obtain ⟨i, hig, rfl, hbr, hall⟩ := hrel
    have HBR : Hid (Below w1.heap.size w1 wr) := hbA.trans (hbr.mono hbA.size)
    have HBR2 : Hid (Below w2.heap.size w2 wr) := hbr
    by_cases hi : i < l.length
    · obtain ⟨t, g, off, ty, rv, f, rc, ht, rfl, hcell, hm, he, hc⟩ := HEL.out i hi
      have q0 := hcell wr HBR.out
      have kr := (hbr.block w1.heap.size (by omega)).trans kx
      have x0 : wr.cell? ⟨w1.heap.size, 0, none⟩ = some (.int .i64 xa) := by simp [World.cell?, kr]
      have x1 : wr.cell? ⟨w1.heap.size, 1, none⟩ = some (.int .i64 xl) := by simp [World.cell?, kr]
      have x2 : wr.cell? ⟨w1.heap.size, 2, none⟩ = some (.int .i64 xf) := by simp [World.cell?, kr]
      have x3 : wr.cell? ⟨w1.heap.size, 3, none⟩ = some (.int .i64 xb) := by simp [World.cell?, kr]
      have x4 : wr.cell? ⟨w1.heap.size, 4, none⟩ = some (.int .i64 xm) := by simp [World.cell?, kr]
      have HC := hc wr HBR.out
      have hi1 : (i : Int) < (l.length : Int) := by omega
      have HALL : Hid (∀ j t, j < i → l[j]? = some t → me t = true) := hall
      clear hcell hc kr hbr kx hall
      go_wp2_with fail
      refine HC.mono ?_
      rintro e w3 ⟨rfl, hb3⟩
      cases hmt : me t
      · have HR := HAF.out i t ht hmt
        go_wp2
        go_ret
        exact ⟨by rw [HR]; rfl, HBR.out.trans (hb3.mono HBR.out.size)⟩
      · go_wp2
        go_roundg (gk - 1)
        case measure => omega
        case rel =>
          refine ⟨i + 1, by omega, by go_num, HBR2.out.trans (hb3.mono HBR2.out.size), fun j t' hj ht' => ?_⟩
          rcases (by omega : j = i ∨ j < i) with rfl | h
          · obtain rfl : t = t' := by rw [ht] at ht'; exact Option.some.inj ht'
            exact hmt
          · exact HALL.out j t' h ht'
    · obtain rfl : i = l.length := by omega
      have HR := HAT.out l.length hall rfl
      go_wp2
      go_ret
      exact ⟨by rw [HR]; rfl, HBR.out⟩
end Go.Proofs.YtibecinojkkjpaaDoor
