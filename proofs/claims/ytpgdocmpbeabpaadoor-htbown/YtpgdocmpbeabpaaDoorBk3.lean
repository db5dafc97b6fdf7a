/-
  bucket.open: of a bucket that may not be what Check says; of packets that may not be what List says; else a full bucket; nothing that was there before is otherwise. Conditions: errors.errorType holds its handle; the packets lie in memory.
-/
import Derived.Test.YtpgdocmpbeabpaaDoorU6
import Derived.Test.YtpgdocmpbeabpaaDoorU3
import Derived.Shelf.Abstract
namespace Go.Proofs.YtpgdocmpbeabpaaDoor
open Go.RowKit Go.Extern.Stop Go.Stop Go.Extern

/-- Packets that may be. -/
def okL (xs : List It) : Prop := (listE xs).1 = 0
theorem okL.fine {xs : List It} (h : okL xs) : Fine xs ∧ xs.length ≤ 100 := by
  unfold okL at h
  have hl : ¬ 100 < xs.length := fun hl => by rw [listE_long hl] at h; simp at h
  have hf : ∀ j, j < xs.length → faultAt xs j = 0 := by
    intro j hj
    cases hb : firstBad xs with
    | none =>
      unfold firstBad at hb
      simp at hb
      exact hb j hj
    | some i =>
      exfalso
      simp only [listE, hl, if_false, hb] at h
      unfold firstBad at hb
      rw [List.find?_range_eq_some] at hb
      have := hb.1
      simp [h] at this
  refine ⟨fun k x hx => ?_, by omega⟩
  have hk : k < xs.length := (List.getElem?_eq_some_iff.1 hx).1
  have h1 := hf k hk
  have hok : x.ok = true := by
    cases ho : x.ok with
    | true => rfl
    | false => rw [fault_range hx ho] at h1; simp at h1
  have hok' := hok
  simp only [It.ok, Bool.and_eq_true, wth_iff] at hok'
  refine ⟨by omega, fun y hy => ?_⟩
  have hk1 : k + 1 < xs.length := (List.getElem?_eq_some_iff.1 hy).1
  have h2 := hf (k + 1) hk1
  have hoy : y.ok = true := by
    cases ho : y.ok with
    | true => rfl
    | false => rw [fault_range hy ho] at h2; simp at h2
  by_cases hc : y.a < x.a
  · rw [fault_order hy hx hoy hc] at h2; simp at h2
  · omega
theorem okL.nil {w : World} {v : Value} {xs : List It} (h : okL xs) (he : ErrIs w v (listE xs).1 (listE xs).2) : v = .nilIface := by
  rw [show (listE xs).1 = 0 from h] at he
  rcases he with ⟨h, _⟩ | ⟨_, h, _⟩ | ⟨_, _, _, _, h, _⟩
  · exact h
  · exact absurd rfl h
  · exact absurd rfl h
/-- An error that is one is no nil. -/
theorem ErrIs.iface {w : World} {v : Value} {E P : Int} (h : ErrIs w v E P) (hE : E ≠ 0) : ∃ t u, v = .iface t u := by
  rcases h with ⟨_, h, _⟩ | ⟨h, _⟩ | ⟨a, h, _⟩
  · exact absurd h hE
  · exact ⟨_, _, h⟩
  · exact ⟨_, _, h⟩

theorem ItemsAt.lt {w : World} {b off : Nat} {xs : List It} (h : ItemsAt w (some ⟨b, off, none⟩) xs) (h0 : xs ≠ []) : b < w.heap.size := by
  rcases h with h | ⟨b', off', e, hI⟩
  · exact absurd h h0
  · cases e
    obtain ⟨y, hy⟩ : ∃ y, xs[0]? = some y := by
      cases xs with
      | nil => exact absurd rfl h0
      | cons y ys => exact ⟨y, rfl⟩
    exact lt_of_cell (hI 0 y hy).1
theorem open_nob (n t R : Int) (l : Value) (w : World) (h : ¬ okB n t R) :
    Calls Tryd.prog 22 #[.agg #[.int .i64 n, .int .i64 t, .int .i64 R], l] w fun e w' => e = .returned (.tuple #[.pointer none, .iface 65 (.int .i64 2)]) ∧ Below w.heap.size w w' := by
  have H : Hid (¬ okB n t R) := h
  clear h
  go_enter Tryd.func22, Tryd.ntmps22
  go_wp2_with (go_at_call 38; refine (new_no _ _ _ _ H.out).mono ?_; rintro e w1 ⟨rfl, hb1⟩)
  go_ret2
  exact ⟨rfl, ((Below.refl _ _).alloc (Nat.le_refl _) _).trans (hb1.mono (by simp))⟩
theorem open_nol (n t R : Int) (x : Option Addr) (cap : Nat) (xs : List It) (w : World) (h : okB n t R) (hl : ¬ okL xs) (hL : Laid w) (hI : ItemsAt w x xs) (hm : xs.length ≤ maxLen) :
    Calls Tryd.prog 22 #[.agg #[.int .i64 n, .int .i64 t, .int .i64 R], .slice x xs.length cap] w fun e w' => ∃ v, e = .returned (.tuple #[.pointer none, v]) ∧ ErrIs w' v (listE xs).1 (listE xs).2 ∧ Below w.heap.size w w' := by
  have H : Hid (okB n t R) := h
  have HM : Hid (xs.length ≤ maxLen) := hm
  have HN : Hid (¬ okL xs) := hl
  clear h hm hl
  go_enter Tryd.func22, Tryd.ntmps22
  go_wp2_with fail
  refine (new_yes _ _ _ _ H.out).mono ?_
  rintro e w1 ⟨s, rfl, hs, hst, hb1⟩
  have hB : Below w.heap.size w w1 := ((Below.refl _ _).alloc (Nat.le_refl _) _).trans (hb1.mono (by simp))
  have hL1 : Laid w1 := hL.below hB
  have hI1 := hI.below hB
  clear hst
  go_wp2_with fail
  refine (list_any x cap xs w1 hL1 hI1 HM.out).mono ?_
  rintro e w2 ⟨v, rfl, he, hb2⟩
  obtain ⟨t', u', rfl⟩ := he.iface HN.out
  have HE : Hid (ErrIs w2 (.iface t' u') (listE xs).1 (listE xs).2) := he
  clear he
  go_wp2
  go_ret2
  exact ⟨_, rfl, HE.out, hB.trans (hb2.mono hB.size)⟩
theorem open_yes (n t R : Int) (x : Option Addr) (cap : Nat) (xs : List It) (w : World) (h : okB n t R) (hl : okL xs) (hL : Laid w) (hI : ItemsAt w x xs) (hm : xs.length ≤ maxLen) :
    Calls Tryd.prog 22 #[.agg #[.int .i64 n, .int .i64 t, .int .i64 R], .slice x xs.length cap] w fun e w' => ∃ s, e = .returned (.tuple #[.pointer (some ⟨s, 0, none⟩), .nilIface]) ∧ w.heap.size ≤ s ∧ StAt w' s n t R (R * t) 0 ∧ Below w.heap.size w w' := by
  have H : Hid (okB n t R) := h
  have HM : Hid (xs.length ≤ maxLen) := hm
  have HN : Hid (okL xs) := hl
  clear h hm hl
  go_enter Tryd.func22, Tryd.ntmps22
  go_wp2_with fail
  refine (new_yes _ _ _ _ H.out).mono ?_
  rintro e w1 ⟨s, rfl, hs, hst, hb1⟩
  have hB : Below w.heap.size w w1 := ((Below.refl _ _).alloc (Nat.le_refl _) _).trans (hb1.mono (by simp))
  have hL1 : Laid w1 := hL.below hB
  have hI1 := hI.below hB
  have HS : Hid (StAt w1 s n t R (R * t) 0) := hst
  clear hst
  go_wp2_with fail
  refine (list_any x cap xs w1 hL1 hI1 HM.out).mono ?_
  rintro e w2 ⟨v, rfl, he, hb2⟩
  obtain rfl := HN.out.nil he
  clear he
  go_wp2
  go_ret2
  exact ⟨s, rfl, by simp at hs; omega, HS.out.kept (S := fun _ => False) (Oth.of_below hb2) id, hB.trans (hb2.mono hB.size)⟩
end Go.Proofs.YtpgdocmpbeabpaaDoor
