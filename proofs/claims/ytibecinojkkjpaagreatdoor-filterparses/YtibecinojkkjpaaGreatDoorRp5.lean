/-
  The reference reads a filter: any, not, and where too many stand one in the other. Conditions: none.
-/
import Derived.Test.YtibecinojkkjpaaGreatDoorRp4
import Derived.Test.YtibecinojkkjpaaGreatDoorFl8
namespace Go.Proofs.YtibecinojkkjpaaGreatDoor
open Go.RowKit Go.Extern.Stop Go.Stop Go.Extern

/-- The reference reads filters, so many of which may stand one in the other. -/
def FilterRC (d : Nat) : Prop := ∀ {b n : Nat} {at' : Int} {v : Value} {L : List (List UInt8 × Nat)} (ar : Int) (w : World), PsAt w b n 0 at' v L → (∀ w', Ot (fun k => k = b) w w' → GlobR w') → shortL L → L.length ≤ 2000 → 0 ≤ ar → ar + d = 20 →
  Calls Tryz.prog 13 #[.pointer (some ⟨b, 0, none⟩), .int .i64 ar] w fun e w' => RpP w w' b n at' v L d (readF n d L) e
theorem seg_one {w : World} {B tb : Nat} (hb : w.heap[B]? = some (.cells #[ptrV tb] 22 (0, 0))) : Seg w 22 1 (.slice (some ⟨B, 0, none⟩) 1 1) 1 ([tb].map ptrV) :=
  ⟨rfl, Or.inr ⟨B, 0, 1, _, rfl, hb, by decide, by decide, by simp, fun j u hj => by simpa using hj⟩⟩
set_option maxRecDepth 100000 in
theorem rf_zero {b n : Nat} {at' : Int} {v : Value} {L : List (List UInt8 × Nat)} (w : World) (h : PsAt w b n 0 at' v L) :
    Calls Tryz.prog 13 #[.pointer (some ⟨b, 0, none⟩), .int .i64 20] w fun e w' => RpP w w' b n at' v L 0 (readF n 0 L) e := by
  have H : Hid (PsAt w b n 0 at' v L) := h
  obtain ⟨c0, c1, c2, c3, f0, f2, f3⟩ := h.cells
  clear h
  go_enter Tryz.func13, Tryz.ntmps13
  go_wp2_with fail
  refine (fail_any at' w H.out 4).mono ?_
  rintro e w1 ⟨rfl, hp, ho⟩
  have HP : Hid (PsAt w1 b n 4 (hdP n L) v L) := hp
  clear hp
  go_wp2
  go_ret
  exact ⟨4, _, v, L, HP.out, rfl, ho, fun y hy => hy, Or.inr ⟨4, hdP n L, none, rfl, rfl, rfl, by decide, rfl⟩⟩
set_option maxRecDepth 100000 in
theorem rf_any {b n d : Nat} {at' : Int} {v : Value} {L : List (List UInt8 × Nat)} (ar : Int) (w : World) (h : PsAt w b n 0 at' v L) (ha : ar ≤ 19) (h0 : hdW L = [97, 110, 121]) :
    Calls Tryz.prog 13 #[.pointer (some ⟨b, 0, none⟩), .int .i64 ar] w fun e w' => RpP w w' b n at' v L (d + 1) (.ok (anyT, L.tail)) e := by
  have H : Hid (PsAt w b n 0 at' v L) := h
  obtain ⟨c0, c1, c2, c3, f0, f2, f3⟩ := h.cells
  have HW : Hid (hdW L = [97, 110, 121]) := h0
  clear h h0
  go_enter Tryz.func13, Tryz.ntmps13
  go_wp2_with fail
  refine (is_yes w H.out ⟨#[97, 110, 121]⟩ (by simp) HW.out).mono ?_
  rintro e w1 ⟨rfl, v1, hp, hv, ho⟩
  have HP : Hid (PsAt w1 b n 0 at' v1 L.tail) := hp
  have HO : Hid (Ot (fun k => k = b) w w1) := ho
  clear hp ho
  go_wp2
  go_ret
  exact ⟨0, at', v1, L.tail, HP.out.below (below_alloc_ (Below.refl _ _) _), hv, HO.out.alloc _, tail_mem, Or.inl ⟨anyT, w1.heap.size, rfl, rfl, rfl, rfl, ⟨Or.inl rfl, HO.out.size, .slice none 0 0, [], new_block _ _, fun j hj => by simp [Value.ownBlock] at hj, Seg.nil _ _ _, rfl, fun i y k hy => by simp [anyT] at hy⟩⟩⟩
set_option maxRecDepth 100000 in
set_option maxHeartbeats 2000000 in
theorem rf_not {b n d : Nat} {at' : Int} {v : Value} {L : List (List UInt8 × Nat)} (hC : FilterRC d) (ar : Int) (w : World) (h : PsAt w b n 0 at' v L) (hB : ∀ w', Ot (fun k => k = b) w w' → GlobR w') (hs : shortL L) (hL : L.length ≤ 2000) (ha : 0 ≤ ar) (hd : ar + (d + 1 : Nat) = 20) (h0 : hdW L ≠ [97, 110, 121]) (h1 : hdW L = [110, 111, 116]) :
    Calls Tryz.prog 13 #[.pointer (some ⟨b, 0, none⟩), .int .i64 ar] w fun e w' => RpP w w' b n at' v L (d + 1) (notR (readF n d L.tail)) e := by
  have H : Hid (PsAt w b n 0 at' v L) := h
  have htl := tail_le L
  have HC : Hid (∀ w1 v1, PsAt w1 b n 0 at' v1 L.tail → Ot (fun k => k = b) w w1 → Calls Tryz.prog 13 #[.pointer (some ⟨b, 0, none⟩), .int .i64 (ar + 1)] w1 fun e w' => RpP w1 w' b n at' v1 L.tail d (readF n d L.tail) e) := fun w1 v1 g1 g2 => hC (ar + 1) w1 g1 (fun w' h' => hB w' (g2.trans h')) hs.tl (by omega) (by omega) (by omega)
  obtain ⟨c0, c1, c2, c3, f0, f2, f3⟩ := h.cells
  have HN : Hid (hdW L ≠ [97, 110, 121]) := h0
  have HW : Hid (hdW L = [110, 111, 116]) := h1
  have har : ar ≤ 19 := by omega
  clear h h0 h1 hC hB hs hL htl hd
  go_enter Tryz.func13, Tryz.ntmps13
  go_wp2_with fail
  refine (is_no w H.out ⟨#[97, 110, 121]⟩ HN.out).mono ?_
  rintro e w0 ⟨rfl, rfl⟩
  go_wp2_with fail
  refine (is_yes _ H.out ⟨#[110, 111, 116]⟩ (by simp) HW.out).mono ?_
  rintro e w1 ⟨rfl, v1, hp, hv, ho⟩
  have HP : Hid (PsAt w1 b n 0 at' v1 L.tail) := hp
  have HV : Hid (v1.ownBlock = v.ownBlock) := hv
  have HO : Hid (Ot (fun k => k = b) w0 w1) := ho
  clear hp hv ho
  go_wp2_with fail
  refine (HC.out w1 v1 HP.out HO.out).mono ?_
  intro e w2 hq
  obtain ⟨er, p, v2, L2, g1, g2, g3, g4, g5⟩ := hq.after (w := w0) (L := L) HO.out HV.out tail_mem
  have G1 : Hid (PsAt w2 b n er p v2 L2) := g1
  have G3 : Hid (Ot (fun k => k = b) w0 w2) := g3
  clear g1 g3 hq
  rcases g5 with ⟨t, tb, e1, e2, e3, rfl, e5⟩ | ⟨c, q, x, e1, e2, e3, e4, rfl⟩
  · have E1 : Hid (readF n d L.tail = .ok (t, L2)) := e1
    have E2 : Hid (er = 0) := e2
    have E3 : Hid (p = at') := e3
    have E5 : Hid (RfAt w2 (fun k => w0.heap.size ≤ k) d t tb) := e5
    clear e1 e2 e3 e5
    go_wp2
    go_ret
    refine ⟨er, p, v2, L2, G1.out.below (by repeat' (first | with_reducible exact Below.refl _ _ | with_reducible refine below_alloc_ ?_ _)), g2, (G3.out.alloc _).alloc _, g4, Or.inl ⟨notT t, _, by rw [E1.out]; rfl, E2.out, E3.out, rfl, ?_⟩⟩
    have hz := G3.out.size
    have hf := E5.out.below (below_alloc_ (below_alloc_ (Below.refl w2.heap.size w2) (.cells #[ptrV tb] 22)) (.cells #[.string ⟨#[110, 111, 116]⟩, .int .i64 0, .int .i64 0, .int .i64 0, .slice (some ⟨w2.heap.size, 0, none⟩) 1 1] 63))
    refine ⟨Or.inr (Or.inr (Or.inr (Or.inl ⟨t, rfl, E5.out.ok⟩))), ?_, .slice (some ⟨w2.heap.size, 0, none⟩) 1 1, [tb], ?_, ?_, seg_one ?_, rfl, ?_⟩
    · simp; omega
    · exact new_block_ (by simp)
    · intro j hj; simp only [Value.ownBlock, Option.some.injEq] at hj; subst hj; exact hz
    · rw [Below.heap_alloc _ _ _ (by simp)]; exact new_block _ _
    · intro i y k hy hk
      match i with
      | 0 => simp [notT] at hy hk; subst hy hk; exact hf
      | i + 1 => simp [notT] at hy
  · have E1 : Hid (readF n d L.tail = .error (c, q)) := e1
    have E2 : Hid (er = c) := e2
    have E3 : Hid (p = q) := e3
    have E4 : Hid (c ≠ 0) := e4
    clear e1 e2 e3 e4
    go_wp2
    go_ret
    exact ⟨er, p, v2, L2, G1.out.below (by repeat' (first | with_reducible exact Below.refl _ _ | with_reducible refine below_alloc_ ?_ _)), g2, (G3.out.alloc _).alloc _, g4, Or.inr ⟨c, q, _, by rw [E1.out]; rfl, E2.out, E3.out, E4.out, rfl⟩⟩
end Go.Proofs.YtibecinojkkjpaaGreatDoor
