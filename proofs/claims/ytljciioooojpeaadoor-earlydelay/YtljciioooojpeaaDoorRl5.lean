/-
  millraceref.Delayed: what Take does where the first packet is none, or is not late. Conditions: the queue lies in memory, few packets; times within bounds.
-/
import Derived.Test.YtljciioooojpeaaDoorRl3
namespace Go.Proofs.YtljciioooojpeaaDoor
open Go.RowKit Go.Extern.Stop Go.Stop Go.Extern

/-- What a Take of the reference leaves. -/
structure QTk (w : World) (b : Nat) (P R T S : Int) (v av : Value) (r : DlS × List Hd × Hd × Bool) (u : Value) (w' : World) (v' av' : Value) : Prop where
  lost : Ps w' u r.2.1
  pos : QP w' b P R T S v' av' r.1
  own : ∀ k, v'.ownBlock = some k → v.ownBlock = some k ∨ w.heap.size ≤ k
  aown : ∀ k, av'.ownBlock = some k → av.ownBlock = some k ∨ w.heap.size ≤ k
  new : ∀ k, u.ownBlock = some k → w.heap.size ≤ k
  ot : Ot (· = b) w w'
theorem QP.six {w : World} {b : Nat} {P R T S : Int} {v av : Value} {s : DlS} (h : QP w b P R T S v av s) {r : Nat} (hr : r ≠ b) (hv : ∀ k, v.ownBlock = some k → k ≠ r) (ha : ∀ k, av.ownBlock = some k → k ≠ r) (a0 a1 a2 a3 a4 a5 : Value) :
    QP ((((((w.setCell ⟨r, 0, none⟩ a0).setCell ⟨r, 1, none⟩ a1).setCell ⟨r, 2, none⟩ a2).setCell ⟨r, 3, none⟩ a3).setCell ⟨r, 4, none⟩ a4).setCell ⟨r, 5, none⟩ a5) b P R T S v av s :=
  h.kept (by simp) (heap_six (Ne.symm hr) rfl) (fun k hk => heap_six (hv k hk) rfl) (fun k hk => heap_six (ha k hk) rfl)
theorem QP.al {w : World} {b : Nat} {P R T S : Int} {v av : Value} {s : DlS} (h : QP w b P R T S v av s) (o : Obj) : QP (w.alloc o) b P R T S v av s := h.below (below_alloc_ (Below.refl _ _) _)
theorem QP.same {w : World} {b : Nat} {P R T S : Int} {v av : Value} {s s' : DlS} (h : QP w b P R T S v av s) (e : s' = s) : QP w b P R T S v av s' := e ▸ h
theorem heap_al {w : World} {o : Obj} {k : Nat} {x : Option Obj} (hk : k < w.heap.size) (h : w.heap[k]? = x) : (w.alloc o).heap[k]? = x := (Below.heap_alloc _ _ _ hk).trans h
set_option maxRecDepth 20000 in
set_option maxHeartbeats 1000000 in
theorem rtake_plain {b : Nat} {P R T S : Int} {v av : Value} {s : DlS} (now : Int) (w : World) (h : QP w b P R T S v av s) (hF : Fit s.L) (hS : 0 ≤ S) (hS1 : S ≤ 1000000) (hn0 : 0 ≤ now) (hn1 : now ≤ 1000000) (ha : ∀ x ∈ s.L, 0 ≤ x.a ∧ x.a ≤ 1000000) (hbad : (pullD T S s now).2.2.2 = false) :
    Calls Tryd.prog 87 #[.pointer (some ⟨b, 0, none⟩), .int .i64 now] w fun e w' => ∃ u v' av', e = .returned (.tuple #[(takeD T S s now).2.2.1.val, u, .bool (takeD T S s now).2.2.2]) ∧ QTk w b P R T S v av (takeD T S s now) u w' v' av' := by
  have H : Hid (QP w b P R T S v av s) := h
  have hb := RAt.lt h.pos
  have hV := Hd.val_eq
  have HVL : Hid (∀ k, v.ownBlock = some k → k < w.heap.size) := fun k hk => h.pos.row.lt hk
  obtain ⟨p, hp⟩ : ∃ p, pullD T S s now = p := ⟨_, rfl⟩
  obtain ⟨s1, x1, ok1, bad1⟩ := p
  have HPU : Hid (∀ (W : World) (v' av' : Value), QP W b P R T S v' av' s → Calls Tryd.prog 90 #[.pointer (some ⟨b, 0, none⟩), .int .i64 now] W fun e w' => e = .returned (.tuple #[x1.val, .bool ok1, .bool bad1]) ∧ ∃ v'' av'', QP w' b P R T S v'' av'' s1 ∧ (∀ k, v''.ownBlock = some k → v'.ownBlock = some k ∨ W.heap.size ≤ k) ∧ (∀ k, av''.ownBlock = some k → av'.ownBlock = some k ∨ W.heap.size ≤ k) ∧ Ot (· = b) W w') := by
    intro W v' av' hD
    have := rpull_any now W hD hF hS hS1 hn0 hn1 ha
    rw [hp] at this
    exact this
  rw [hp] at hbad
  obtain rfl : bad1 = false := hbad
  obtain ⟨p1, p2, p3, p4, p5, p6, p7⟩ := pullD_same hp
  have hT : takeD T S s now = ({ s1 with throws := false }, [], x1, ok1) := by simp [takeD, hp]
  rw [hT]
  have HX0 : Hid (ok1 = false → x1 = hd0) := by
    intro h
    rw [p6] at h
    cases hL : s.L with
    | nil => rw [p5, hL]; rfl
    | cons y l => rw [hL] at h; simp at h
  clear hp hT p1 p2 p3 p4 p5 p6 p7 h ha hF
  cases ok1 with
  | false =>
    obtain rfl := HX0.out rfl
    go_enter Tryd.func87, Tryd.ntmps87
    go_wp2_with (go_at_call 90; refine (HPU.out _ _ _ (QP.al H.out _)).mono ?_; rintro e w1 ⟨rfl, v1, av1, hD1, hk1, hka1, ho1⟩; obtain ⟨hs1, hz⟩ := after_ot ho1 (by omega); obtain ⟨⟨z0, z1, z2, z3, z4, z5⟩, y0, y1, y2, y3, y4, y5⟩ := six hz; have hbs : b < w1.heap.size := Nat.lt_trans hb hs1; obtain ⟨⟨c3, c4, c5, c6, c7, c8, c9⟩, f6, f7, f8, f9⟩ := hD1.pos.cells; have HD1 : Hid (QP w1 b P R T S v1 av1 s1) := hD1; clear hD1; have HW1 : Hid (∀ k, v1.ownBlock = some k → v.ownBlock = some k ∨ w.heap.size ≤ k) := fun k hk => by { rcases hk1 k hk with h | h; exact Or.inl h; exact Or.inr (by simp at h; omega) }; have HAW1 : Hid (∀ k, av1.ownBlock = some k → av.ownBlock = some k ∨ w.heap.size ≤ k) := fun k hk => by { rcases hka1 k hk with h | h; exact Or.inl h; exact Or.inr (by simp at h; omega) }; have HV1 : Hid (∀ k, v1.ownBlock = some k → k ≠ w.heap.size) := fun k hk e => by { rcases hk1 k hk with h | h; have := HVL.out k h; omega; simp at h; omega }; have HAV1 : Hid (∀ k, av1.ownBlock = some k → k ≠ w.heap.size) := fun k hk e => by { rcases hka1 k hk with h | h; have := H.out.low k h; omega; simp at h; omega }; have HO1 : Hid (Ot (· = b) w w1) := (Ot.of_below ((Below.refl _ _).alloc (Nat.le_refl _) _)).trans ho1; clear hk1 hka1 ho1)
    (try simp only [Exit.inBlock, Exit.then])
    refine bodyPost_ret (v := .tuple #[hd0.val, .slice none 0 0, .bool false]) (ret_pack2 (t := 96) (fr := (0, 0)) rfl rfl ?_ rfl rfl) rfl ⟨_, v1, av1, rfl, Ps.nil _, ?_, HW1.out, HAW1.out, fun k hk => by simp [Value.ownBlock] at hk, ?_⟩
    · repeat' (first | with_reducible exact six_set (heap_other (by omega) hz) _ _ _ _ _ _ | with_reducible exact six_set (heap_al hs1 (heap_other (by omega) hz)) _ _ _ _ _ _ | with_reducible exact six_set (heap_al hs1 hz) _ _ _ _ _ _ | with_reducible exact six_set (heap_other (by omega) (heap_al hs1 hz)) _ _ _ _ _ _ | with_reducible exact six_set hz _ _ _ _ _ _ | with_reducible refine heap_al (by simpa using hs1) ?_ | exact six_set (heap_other (by omega) hz) _ _ _ _ _ _)
    · repeat' (first | with_reducible exact HD1.out | with_reducible refine QP.al ?_ _ | with_reducible refine QP.six ?_ (by omega) HV1.out HAV1.out _ _ _ _ _ _ | with_reducible refine QP.throws (s := s1) ?_ false)
    · (have hO := HO1.out; repeat' (first | with_reducible exact hO | with_reducible refine Ot.setCell ?_ (by simp) _ | with_reducible refine Ot.alloc ?_ _))
  | true =>
    cases hth : s1.throws with
    | true =>
      go_enter Tryd.func87, Tryd.ntmps87
      go_wp2_with (go_at_call 90; refine (HPU.out _ _ _ (QP.al H.out _)).mono ?_; rintro e w1 ⟨rfl, v1, av1, hD1, hk1, hka1, ho1⟩; obtain ⟨hs1, hz⟩ := after_ot ho1 (by omega); obtain ⟨⟨z0, z1, z2, z3, z4, z5⟩, y0, y1, y2, y3, y4, y5⟩ := six hz; have hbs : b < w1.heap.size := Nat.lt_trans hb hs1; obtain ⟨⟨c3, c4, c5, c6, c7, c8, c9⟩, f6, f7, f8, f9⟩ := hD1.pos.cells; have HD1 : Hid (QP w1 b P R T S v1 av1 s1) := hD1; clear hD1; have HW1 : Hid (∀ k, v1.ownBlock = some k → v.ownBlock = some k ∨ w.heap.size ≤ k) := fun k hk => by { rcases hk1 k hk with h | h; exact Or.inl h; exact Or.inr (by simp at h; omega) }; have HAW1 : Hid (∀ k, av1.ownBlock = some k → av.ownBlock = some k ∨ w.heap.size ≤ k) := fun k hk => by { rcases hka1 k hk with h | h; exact Or.inl h; exact Or.inr (by simp at h; omega) }; have HV1 : Hid (∀ k, v1.ownBlock = some k → k ≠ w.heap.size) := fun k hk e => by { rcases hk1 k hk with h | h; have := HVL.out k h; omega; simp at h; omega }; have HAV1 : Hid (∀ k, av1.ownBlock = some k → k ≠ w.heap.size) := fun k hk e => by { rcases hka1 k hk with h | h; have := H.out.low k h; omega; simp at h; omega }; have HO1 : Hid (Ot (· = b) w w1) := (Ot.of_below ((Below.refl _ _).alloc (Nat.le_refl _) _)).trans ho1; clear hk1 hka1 ho1)
      (try simp only [Exit.inBlock, Exit.then])
      refine bodyPost_ret (v := .tuple #[x1.val, .slice none 0 0, .bool true]) (ret_pack2 (t := 96) (fr := (0, 0)) rfl rfl ?_ rfl rfl) rfl ⟨_, v1, av1, rfl, Ps.nil _, ?_, HW1.out, HAW1.out, fun k hk => by simp [Value.ownBlock] at hk, ?_⟩
      · repeat' (first | with_reducible exact six_set (heap_other (by omega) hz) _ _ _ _ _ _ | with_reducible exact six_set (heap_al hs1 (heap_other (by omega) hz)) _ _ _ _ _ _ | with_reducible exact six_set (heap_al hs1 hz) _ _ _ _ _ _ | with_reducible exact six_set (heap_other (by omega) (heap_al hs1 hz)) _ _ _ _ _ _ | with_reducible exact six_set hz _ _ _ _ _ _ | with_reducible refine heap_al (by simpa using hs1) ?_)
      · repeat' (first | with_reducible exact HD1.out | with_reducible refine QP.al ?_ _ | with_reducible refine QP.six ?_ (by omega) HV1.out HAV1.out _ _ _ _ _ _ | with_reducible refine QP.throws (s := s1) ?_ false)
      · (have hO := HO1.out; repeat' (first | with_reducible exact hO | with_reducible refine Ot.setCell ?_ (by simp) _ | with_reducible refine Ot.alloc ?_ _))
    | false =>
      have HSE : Hid ({ s1 with throws := false } = s1) := by show _ = _; rw [← hth]
      go_enter Tryd.func87, Tryd.ntmps87
      go_wp2_with (go_at_call 90; refine (HPU.out _ _ _ (QP.al H.out _)).mono ?_; rintro e w1 ⟨rfl, v1, av1, hD1, hk1, hka1, ho1⟩; obtain ⟨hs1, hz⟩ := after_ot ho1 (by omega); obtain ⟨⟨z0, z1, z2, z3, z4, z5⟩, y0, y1, y2, y3, y4, y5⟩ := six hz; have hbs : b < w1.heap.size := Nat.lt_trans hb hs1; obtain ⟨⟨c3, c4, c5, c6, c7, c8, c9⟩, f6, f7, f8, f9⟩ := hD1.pos.cells; have HD1 : Hid (QP w1 b P R T S v1 av1 s1) := hD1; clear hD1; have HW1 : Hid (∀ k, v1.ownBlock = some k → v.ownBlock = some k ∨ w.heap.size ≤ k) := fun k hk => by { rcases hk1 k hk with h | h; exact Or.inl h; exact Or.inr (by simp at h; omega) }; have HAW1 : Hid (∀ k, av1.ownBlock = some k → av.ownBlock = some k ∨ w.heap.size ≤ k) := fun k hk => by { rcases hka1 k hk with h | h; exact Or.inl h; exact Or.inr (by simp at h; omega) }; have HV1 : Hid (∀ k, v1.ownBlock = some k → k ≠ w.heap.size) := fun k hk e => by { rcases hk1 k hk with h | h; have := HVL.out k h; omega; simp at h; omega }; have HAV1 : Hid (∀ k, av1.ownBlock = some k → k ≠ w.heap.size) := fun k hk e => by { rcases hka1 k hk with h | h; have := H.out.low k h; omega; simp at h; omega }; have HO1 : Hid (Ot (· = b) w w1) := (Ot.of_below ((Below.refl _ _).alloc (Nat.le_refl _) _)).trans ho1; clear hk1 hka1 ho1)
      (try simp only [Exit.inBlock, Exit.then])
      refine bodyPost_ret (v := .tuple #[x1.val, .slice none 0 0, .bool true]) (ret_pack2 (t := 96) (fr := (0, 0)) rfl rfl ?_ rfl rfl) rfl ⟨_, v1, av1, rfl, Ps.nil _, QP.same ?_ HSE.out, HW1.out, HAW1.out, fun k hk => by simp [Value.ownBlock] at hk, ?_⟩
      · repeat' (first | with_reducible exact six_set (heap_other (by omega) hz) _ _ _ _ _ _ | with_reducible exact six_set (heap_al hs1 (heap_other (by omega) hz)) _ _ _ _ _ _ | with_reducible exact six_set (heap_al hs1 hz) _ _ _ _ _ _ | with_reducible exact six_set (heap_other (by omega) (heap_al hs1 hz)) _ _ _ _ _ _ | with_reducible exact six_set hz _ _ _ _ _ _ | with_reducible refine heap_al (by simpa using hs1) ?_)
      · repeat' (first | with_reducible exact HD1.out | with_reducible refine QP.al ?_ _ | with_reducible refine QP.six ?_ (by omega) HV1.out HAV1.out _ _ _ _ _ _ | with_reducible refine QP.throws (s := s1) ?_ false)
      · (have hO := HO1.out; repeat' (first | with_reducible exact hO | with_reducible refine Ot.setCell ?_ (by simp) _ | with_reducible refine Ot.alloc ?_ _))
end Go.Proofs.YtljciioooojpeaaDoor
