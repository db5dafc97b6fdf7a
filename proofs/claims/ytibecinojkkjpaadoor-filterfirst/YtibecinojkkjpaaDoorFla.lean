/-
  package filter: which packets a filter means: First, and any filter. Conditions: the filter lies in memory.
-/
import Derived.Test.YtibecinojkkjpaaDoorFl9
namespace Go.Proofs.YtibecinojkkjpaaDoor
open Go.RowKit Go.Extern.Stop Go.Stop Go.Extern

set_option maxHeartbeats 2000000 in
theorem first_any (x : It) {d : Nat} {y : Option Addr} {c : Nat} {l : List Ft} {vs : List Value} (w : World) (hs : Seg w 31 1 (.slice y l.length c) l.length vs) (hl : vs.length = l.length) (hx : l.length ≤ maxLen) (hel : ∀ (i : Nat) y u, l[i]? = some y → vs[i]? = some u → MeansAt w u x (means x d y)) :
    ∀ w1, Below w.heap.size w w1 → Calls Tryd.prog 8 #[.slice y l.length c, .agg #[.int .i64 x.a, .int .i64 x.l, .int .i64 x.f, .int .i64 x.b, .int .i64 x.m]] w1 fun e w' => ∃ r : Int, e = .returned (.int .i64 r) ∧ decide (0 ≤ r) = l.any (means x d) ∧ Below w1.heap.size w1 w' := by
  intro w1 hb1
  have hcs : ∀ (i : Nat) u, vs[i]? = some u → ∃ g off, y = some ⟨g, off, none⟩ ∧ w.cell? ⟨g, off + i, none⟩ = some u ∧ g < w.heap.size := by
    obtain ⟨y', c', e, h⟩ := seg_slice hs
    injection e with e1 e2 e3
    subst e1
    exact h
  have HEL : Hid (∀ i, i < l.length → ∃ (t : Ft) (g off : Nat) (ty : TypeId) (rv : Value) (f : FuncId) (rc : Value), l[i]? = some t ∧ y = some ⟨g, off, none⟩ ∧ (∀ w2, Below w1.heap.size w1 w2 → w2.cell? ⟨g, off + i, none⟩ = some (.iface ty rv)) ∧ (∀ W : World, (Go.method 266 ty rv "Meant").run Tryd.prog W = .ok (f, rc) W) ∧ (∀ (args : Array Value) (W : World), (callFunc f args).run Tryd.prog W = .ok (.enter f args) W) ∧ ∀ w2, Below w1.heap.size w1 w2 → Calls Tryd.prog f #[rc, .agg #[.int .i64 x.a, .int .i64 x.l, .int .i64 x.f, .int .i64 x.b, .int .i64 x.m]] w2 fun e w' => e = .returned (.bool (means x d t)) ∧ Below w2.heap.size w2 w') := by
    intro i hi
    obtain ⟨u, hu⟩ : ∃ u, vs[i]? = some u := ⟨_, List.getElem?_eq_getElem (by omega)⟩
    obtain ⟨t, ht⟩ : ∃ t, l[i]? = some t := ⟨_, List.getElem?_eq_getElem hi⟩
    obtain ⟨g, off, e1, e2, e3⟩ := hcs i u hu
    obtain ⟨ty, rv, f, rc, rfl, h2, h3, h4⟩ := hel i t u ht hu
    refine ⟨t, g, off, ty, rv, f, rc, ht, e1, fun w2 h => ?_, h2, h3, fun w2 h => h4 w2 (hb1.trans (h.mono hb1.size))⟩
    have hbb := hb1.trans (h.mono hb1.size)
    rw [hbb.cell (p := ⟨g, off + i, none⟩) e3]; exact e2
  have hxn : (l.length : Int) ≤ 9223372036854775807 := by unfold maxLen at hx; omega
  clear hs hcs hel hb1 hx
  have HAT : Hid (∀ i, (∀ j t, j < i → l[j]? = some t → means x d t = false) → i = l.length → l.any (means x d) = false) := by
    intro i h hi
    rw [List.any_eq_false]
    intro t ht
    obtain ⟨j, hj⟩ := List.mem_iff_getElem?.1 ht
    rw [h j t (by have := (List.getElem?_eq_some_iff.1 hj).1; omega) hj]; decide
  have HAF : Hid (∀ (i : Nat) t, l[i]? = some t → means x d t = true → l.any (means x d) = true) := by
    intro i t hi hm
    rw [List.any_eq_true]
    exact ⟨t, List.mem_of_getElem? hi, hm⟩
  obtain ⟨xa, xl, xf, xb, xm⟩ := x
  simp only at HEL ⊢
  generalize hme : means ⟨xa, xl, xf, xb, xm⟩ d = me at *
  go_enter Tryd.func8, Tryd.ntmps8
  go_wp2_with fail
  have hbA : Below w1.heap.size w1 (w1.alloc (.cells #[.int .i64 xa, .int .i64 xl, .int .i64 xf, .int .i64 xb, .int .i64 xm] 23)) := below_alloc_ (Below.refl _ _) _
  have kx : (w1.alloc (.cells #[.int .i64 xa, .int .i64 xl, .int .i64 xf, .int .i64 xb, .int .i64 xm] 23)).heap[w1.heap.size]? = some (.cells #[.int .i64 xa, .int .i64 xl, .int .i64 xf, .int .i64 xb, .int .i64 xm] 23 (0, 0)) := new_block _ _
  have hsz : (w1.alloc (.cells #[.int .i64 xa, .int .i64 xl, .int .i64 xf, .int .i64 xb, .int .i64 xm] 23)).heap.size = w1.heap.size + 1 := by simp
  generalize w1.alloc (.cells #[.int .i64 xa, .int .i64 xl, .int .i64 xf, .int .i64 xb, .int .i64 xm] 23) = w2 at *
  go_loopg [9, 5, 6] l.length (fun g v12 _ _ wx => ∃ i : Nat, i + g = l.length ∧ v12 = .int .i64 i ∧ Below w2.heap.size w2 wx ∧ ∀ j t, j < i → l[j]? = some t → me t = false)
  case atStart => exact ⟨0, by omega, rfl, Below.refl _ _, fun j t hj => by omega⟩
  case round =>
    obtain ⟨i, hig, rfl, hbr, hall⟩ := hrel
    have HBR : Hid (Below w1.heap.size w1 wr) := hbA.trans (hbr.mono hbA.size)
    have HBR2 : Hid (Below w2.heap.size w2 wr) := hbr
    by_cases hi : i < l.length
    · obtain ⟨t, g, off, ty, rv, f, rc, ht, rfl, hcell, hm, he, hc⟩ := HEL.out i hi
      have q0 := hcell wr HBR.out
      have kr := (hbr.block w1.heap.size (by omega)).trans kx
      have x0 : wr.cell? ⟨w1.heap.size, 0, none⟩ = some (.int .i64 xa) := by simp [World.cell?, kr]
      have x1 : wr.cell? ⟨w1.heap.size, 1, none⟩ = some (.int .i64 xl) := by simp [World.cell?, kr]
      have x2 : wr.cell? ⟨w1.heap.size, 2, none⟩ = some (.int .i64 xf) := by simp [World.cell?, kr]
      have x3 : wr.cell? ⟨w1.heap.size, 3, none⟩ = some (.int .i64 xb) := by simp [World.cell?, kr]
      have x4 : wr.cell? ⟨w1.heap.size, 4, none⟩ = some (.int .i64 xm) := by simp [World.cell?, kr]
      have HC := hc wr HBR.out
      have hi1 : (i : Int) < (l.length : Int) := by omega
      have HALL : Hid (∀ j t, j < i → l[j]? = some t → me t = false) := hall
      clear hcell hc kr hbr kx hall
      go_wp2_with fail
      refine HC.mono ?_
      rintro e w3 ⟨rfl, hb3⟩
      cases hmt : me t
      case true =>
        have HR := HAF.out i t ht hmt
        go_wp2
        go_ret
        exact ⟨i, rfl, by rw [HR]; simp, HBR.out.trans (hb3.mono HBR.out.size)⟩
      case false =>
        go_wp2
        go_roundg (gk - 1)
        case measure => omega
        case rel =>
          refine ⟨i + 1, by omega, by go_num, HBR2.out.trans (hb3.mono HBR2.out.size), fun j t' hj ht' => ?_⟩
          rcases (by omega : j = i ∨ j < i) with rfl | h
          · obtain rfl : t = t' := by rw [ht] at ht'; exact Option.some.inj ht'
            exact hmt
          · exact HALL.out j t' h ht'
    · obtain rfl : i = l.length := by omega
      have HR := HAT.out l.length hall rfl
      go_wp2
      go_ret
      exact ⟨-1, rfl, by rw [HR]; rfl, HBR.out⟩
set_option maxHeartbeats 2000000 in
theorem meant_some (x : It) {d b : Nat} {sl : Value} {l : List Ft} {vs : List Value} (w : World) (hb : w.heap[b]? = some (.cells #[sl] 110 (0, 0))) (hs : Seg w 31 1 sl l.length vs) (hl : vs.length = l.length) (hx : l.length ≤ maxLen) (hel : ∀ (i : Nat) y u, l[i]? = some y → vs[i]? = some u → MeansAt w u x (means x d y)) :
    ∀ w1, Below w.heap.size w w1 → Calls Tryd.prog 102 #[.pointer (some ⟨b, 0, none⟩), .agg #[.int .i64 x.a, .int .i64 x.l, .int .i64 x.f, .int .i64 x.b, .int .i64 x.m]] w1 fun e w' => e = .returned (.bool (l.any (means x d))) ∧ Below w1.heap.size w1 w' := by
  intro w1 hb1
  obtain ⟨y, c, rfl, -⟩ := seg_slice hs
  have c0 : w1.heap[b]? = some (.cells #[.slice y l.length c] 110 (0, 0)) := (hb1.block b (lt_of_block hb)).trans hb
  have hbl : b < w1.heap.size := Nat.lt_of_lt_of_le (lt_of_block hb) hb1.size
  have HFI : Hid (∀ w2, Below w1.heap.size w1 w2 → Calls Tryd.prog 8 #[.slice y l.length c, .agg #[.int .i64 x.a, .int .i64 x.l, .int .i64 x.f, .int .i64 x.b, .int .i64 x.m]] w2 fun e w' => ∃ r : Int, e = .returned (.int .i64 r) ∧ decide (0 ≤ r) = l.any (means x d) ∧ Below w2.heap.size w2 w') := fun w2 h2 => first_any x w hs hl hx hel w2 (hb1.trans (h2.mono hb1.size))
  clear hs hl hx hel hb hb1
  obtain ⟨xa, xl, xf, xb, xm⟩ := x
  simp only at HFI ⊢
  generalize l.any (means ⟨xa, xl, xf, xb, xm⟩ d) = R at *
  go_enter Tryd.func102, Tryd.ntmps102
  go_wp2_with fail
  have hbA : Below w1.heap.size w1 (w1.alloc (.cells #[.int .i64 xa, .int .i64 xl, .int .i64 xf, .int .i64 xb, .int .i64 xm] 23)) := below_alloc_ (Below.refl _ _) _
  have kx : (w1.alloc (.cells #[.int .i64 xa, .int .i64 xl, .int .i64 xf, .int .i64 xb, .int .i64 xm] 23)).heap[w1.heap.size]? = some (.cells #[.int .i64 xa, .int .i64 xl, .int .i64 xf, .int .i64 xb, .int .i64 xm] 23 (0, 0)) := new_block _ _
  have kb : (w1.alloc (.cells #[.int .i64 xa, .int .i64 xl, .int .i64 xf, .int .i64 xb, .int .i64 xm] 23)).heap[b]? = some (.cells #[.slice y l.length c] 110 (0, 0)) := (hbA.block b hbl).trans c0
  have hsz : (w1.alloc (.cells #[.int .i64 xa, .int .i64 xl, .int .i64 xf, .int .i64 xb, .int .i64 xm] 23)).heap.size = w1.heap.size + 1 := by simp
  generalize w1.alloc (.cells #[.int .i64 xa, .int .i64 xl, .int .i64 xf, .int .i64 xb, .int .i64 xm] 23) = wc at *
  have HSC : Hid (∀ w', Below wc.heap.size wc w' → w'.cell? ⟨b, 0, none⟩ = some (.slice y l.length c) ∧ w'.cell? ⟨w1.heap.size, 0, none⟩ = some (.int .i64 xa) ∧ w'.cell? ⟨w1.heap.size, 1, none⟩ = some (.int .i64 xl) ∧ w'.cell? ⟨w1.heap.size, 2, none⟩ = some (.int .i64 xf) ∧ w'.cell? ⟨w1.heap.size, 3, none⟩ = some (.int .i64 xb) ∧ w'.cell? ⟨w1.heap.size, 4, none⟩ = some (.int .i64 xm) ∧ Below wc.heap.size wc w') := by
    intro w' hb
    have e2 := (hb.block b (by omega)).trans kb
    have e3 := (hb.block w1.heap.size (by omega)).trans kx
    exact ⟨by simp [World.cell?, e2], by simp [World.cell?, e3], by simp [World.cell?, e3], by simp [World.cell?, e3], by simp [World.cell?, e3], by simp [World.cell?, e3], hb⟩
  have HOC : Hid (∀ w', Below wc.heap.size wc w' → Calls Tryd.prog 8 #[.slice y l.length c, .agg #[.int .i64 xa, .int .i64 xl, .int .i64 xf, .int .i64 xb, .int .i64 xm]] w' fun e w'' => ∃ r : Int, e = .returned (.int .i64 r) ∧ decide (0 ≤ r) = R ∧ Below wc.heap.size wc w'') := fun w' hb => (HFI.out w' (hbA.trans (hb.mono hbA.size))).mono fun e w'' ⟨r, h1, h2, h3⟩ => ⟨r, h1, h2, hb.trans (h3.mono hb.size)⟩
  have HE : Hid (∀ w', Below wc.heap.size wc w' → Below w1.heap.size w1 w') := fun w' hb => hbA.trans (hb.mono hbA.size)
  clear HFI kx kb hbA c0
  go_region_held3 (fun w' => w'.cell? ⟨b, 0, none⟩ = some (.slice y l.length c) ∧ w'.cell? ⟨w1.heap.size, 0, none⟩ = some (.int .i64 xa) ∧ w'.cell? ⟨w1.heap.size, 1, none⟩ = some (.int .i64 xl) ∧ w'.cell? ⟨w1.heap.size, 2, none⟩ = some (.int .i64 xf) ∧ w'.cell? ⟨w1.heap.size, 3, none⟩ = some (.int .i64 xb) ∧ w'.cell? ⟨w1.heap.size, 4, none⟩ = some (.int .i64 xm) ∧ Below wc.heap.size wc w') ((refine HSC.out _ ?_; first | exact (Below.refl _ _).drew | assumption | exact Below.refl _ _)) ((go_at_call 8; refine (HOC.out _ (by first | exact (Below.refl _ _).drew | assumption | exact Below.refl _ _)).mono ?_; rintro e w' ⟨r, rfl, hrr, hbb⟩))
  go_wp2
  go_ret
  exact ⟨by rw [← hrr]; rfl, HE.out _ hbb⟩
/-- Any filter in memory means what it means. -/
theorem means_at (x : It) (w : World) (S : Nat → Prop) : ∀ (d : Nat) (t : Ft) (v : Value), FAt w S d t v → nd d t ≤ 100000 → MeansAt w v x (means x d t)
  | 0, _, _, h, _ => h.elim
  | d + 1, t, v, h, hn => by
    rcases h with ⟨rfl, rfl⟩ | ⟨f, lo, hi, rfl, rfl, hf, _⟩ | ⟨f, n, rfl, rfl, hf, _⟩ | ⟨y, u, rfl, rfl, hy⟩ | ⟨k, l, b, sl, vs, rfl, hk, rfl, _, hb, _, hs, hl, hel⟩
    · exact ⟨_, _, _, _, rfl, mAny, eAny, fun w1 _ => meant_leaf1 x w1⟩
    · exact ⟨_, _, _, _, rfl, mSpan _ _ _, eSpan, fun w1 _ => meant_span x f lo hi w1 hf⟩
    · exact ⟨_, _, _, _, rfl, mBits _ _, eBits, fun w1 _ => meant_bits x f n w1 hf⟩
    · rw [nd_not] at hn
      have h1 := means_at x w S d y u hy (by omega)
      rw [means_not]
      exact ⟨_, _, _, _, rfl, mNot _, eNot, meant_not x w h1⟩
    · rw [nd_lst _ _ hk] at hn
      have hnl : ∀ (l : List Ft), l.length ≤ (l.map (nd d)).sum := by
        intro l
        induction l with
        | nil => simp
        | cons a l ih => have := nd_pos d a; simp only [List.length_cons, List.map_cons, List.sum_cons]; omega
      have hle : ∀ (l : List Ft) (y : Ft), y ∈ l → nd d y ≤ (l.map (nd d)).sum := by
        intro l
        induction l with
        | nil => intro y hy; cases hy
        | cons a l ih =>
          intro y hy
          simp only [List.map_cons, List.sum_cons]
          rcases List.mem_cons.1 hy with rfl | hy
          · omega
          · have := ih y hy; omega
      have hE : ∀ (i : Nat) y u, l[i]? = some y → vs[i]? = some u → MeansAt w u x (means x d y) := fun i y u h1 h2 => means_at x w S d y u (hel i y u h1 h2) (by have := hle l y (List.mem_of_getElem? h1); omega)
      have hm : l.length ≤ maxLen := by have := hnl l; unfold maxLen; omega
      rcases hk with rfl | rfl
      · have e : means x (d + 1) ⟨4, 0, 0, 0, l⟩ = l.all (means x d) := rfl
        rw [e]
        exact ⟨_, _, _, _, rfl, mAll _, eAll, meant_all x w hb hs hl hm hE⟩
      · have e : means x (d + 1) ⟨5, 0, 0, 0, l⟩ = l.any (means x d) := rfl
        rw [e]
        exact ⟨_, _, _, _, rfl, mSome _, eSome, meant_some x w hb hs hl hm hE⟩
end Go.Proofs.YtibecinojkkjpaaDoor
