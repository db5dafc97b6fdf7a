/-
  sketch.lower: each counter of a map is one less, those at 0 are gone; nothing else that was there is otherwise. Conditions: block b is a map of numbers, each at least 1.
-/
import Derived.Test.YtkmbnklfaaopaaaDoorSkN
namespace Go.Proofs.YtkmbnklfaaopaaaDoor
open Go.RowKit Go.Extern.Stop Go.Stop Go.Extern Go.Maps

theorem sameKey_beq (z x : Int) : (Lit.int .i64 z).sameKey (.int .i64 x) = (z == x) := by
  by_cases e : z = x
  · subst e; rw [WideAt.sameKey_self (isKeyJ z)]; simp
  · rw [sameKey_ne (by simpa using e)]; simp [e]
theorem pw_of {w : World} {b n : Nat} {l : List (Lit × DataW Unit)} (h : w.ownsMap Tryd.prog 3 (plainElem Tryd.prog 3) b n (.map l)) : l.Pairwise (fun p q => p.1 ≠ q.1) := by
  obtain ⟨es, he, hpw, _⟩ := h.entries keyI
  have e : l = es := by simpa using he
  rw [e]
  exact hpw
theorem RgI.start {w w' : World} {b n : Nat} {L : List (Int × Int)} {l : List (Lit × DataW Unit)} (hp : l.Perm (L.map enP)) (hn : n ≤ 1000000) (h : w'.ranges Tryd.prog 3 (plainElem Tryd.prog 3) b w.heap.size n (.map l) (Maps.has (.map l)) (Maps.size (.map l))) :
    RgI w' b w.heap.size (lowL (fun z => Maps.has (.map l : DataW Unit) (.int .i64 z)) L) (Maps.has (.map l)) (Maps.size (.map l)) := by
  refine ⟨l, n, hn, h, ?_⟩
  rw [lowL_all]
  · exact hp
  · intro p hpm
    exact List.any_eq_true.2 ⟨enP p, hp.symm.subset (List.mem_map.2 ⟨p, hpm, rfl⟩), WideAt.sameKey_self (isKeyJ p.1)⟩
theorem low_none {left : Int → Bool} (h : ∀ z, left z = false) (L : List (Int × Int)) : lowL left L = lowL (fun _ => false) L := by
  have : left = fun _ => false := funext h
  rw [this]
set_option maxRecDepth 20000 in
set_option maxHeartbeats 2000000 in
theorem lower_any (b : Nat) (L : List (Int × Int)) (w : World) (h : MpI w b L) (hL : L.length ≤ 100000) (hv : ∀ p ∈ L, 1 ≤ p.2 ∧ p.2 ≤ 1000000) :
    Calls Tryd.prog 21 #[.map (some b)] w fun e w' => e = .returned (.tuple #[]) ∧ MpI w' b (lowL (fun _ => false) L) ∧ w.grownBy w' (some b) := by
  have ha := h.ap
  obtain ⟨l, hown, hp⟩ := h
  have HA : Hid (Ap L) := ha
  have HV : Hid (∀ p ∈ L, 1 ≤ p.2 ∧ p.2 ≤ 1000000) := hv
  have HP : Hid (l.Perm (L.map enP)) := hp
  clear ha hv hp
  go_enter Tryd.func21, Tryd.ntmps21
  go_wp2_with (first
    | (at_range; refine wpList_range_own _ rfl _ 23 rfl 3 3 keyI Tryd.underlying23 _ b _ _ rfl hown ?_; intro w0 hrg0 hg0 hs0)
    | go_in)
  go_frame
  go_loopw [2] (fun _ wr => ∃ (left : Lit → Bool) (cnt : Nat), RgI wr b w.heap.size (lowL (fun z => left (.int .i64 z)) L) left cnt ∧ w.grownBy wr (some b))
    (fun _ wr => wr.rangeLeft b w.heap.size)
  case atStart => exact ⟨_, _, RgI.start HP.out (by omega) hrg0, hg0.but _⟩
  case round =>
    obtain ⟨left, cnt, hrg', hgw⟩ := hrel
    have HR : Hid (RgI wr b w.heap.size (lowL (fun z => left (.int .i64 z)) L) left cnt) := hrg'
    obtain ⟨l', n', hn', hrg, hp'⟩ := hrg'
    have HP' : Hid (l'.Perm ((lowL (fun z => left (.int .i64 z)) L).map enP)) := hp'
    clear hp'
    go_wp2_with (first
      | (at_next; refine wpList_next_ranges_ii _ rfl _ rfl 3 3 .i64 .i64 keyI Tryd.underlying3 Tryd.underlying3 b w.heap.size n' _ _ _ rfl hrg ?_ ?_)
      | go_in)
    · intro _ hl0
      go_wp2
      go_end0
      exact ⟨rfl, by rw [← low_none (fun z => hl0 _)]; exact HR.out.mp, hgw⟩
    · intro x c w1 cnt1 hwx hwc hlx hat hrg1 hlt hg1 hs1 hen
      have hgw1 := hgw.andThen hg1 (fun j hj => by cases hj; exact Or.inl (Nat.le_refl _))
      have hkx : I64 x := by
        have e : (Lit.int .i64 x).wf = (decide (IntKind.i64.min ≤ x) && decide (x ≤ IntKind.i64.max)) := rfl
        rw [e, Bool.and_eq_true, decide_eq_true_eq, decide_eq_true_eq] at hwx
        have e1 : IntKind.i64.min = -9223372036854775808 := by decide
        have e2 : IntKind.i64.max = 9223372036854775807 := by decide
        rw [e1, e2] at hwx
        exact hwx
      have hR1 : RgI w1 b w.heap.size (lowL (fun z => left (.int .i64 z)) L) (fun z => left z && !z.sameKey (.int .i64 x)) cnt1 := ⟨l', n', hn', hrg1, HP'.out⟩
      have hmL : (x, c) ∈ lowL (fun z => left (.int .i64 z)) L := by
        have hpw := pw_of hrg1.owns
        have hl := look_of hpw HP'.out x
        rw [hat] at hl
        have hc : c = vl (lowL (fun z => left (.int .i64 z)) L) x := by simpa using hl
        rcases vl_cases (lowL (fun z => left (.int .i64 z)) L) x with ⟨v, hm, hv⟩ | ⟨hno, _⟩
        · rw [hc, hv]; exact hm
        · exfalso
          have h1 := hat .nil
          rw [WideAt.atKey_none] at h1
          · cases h1
          · intro p hp e
            obtain ⟨q, hq, rfl⟩ := List.mem_map.1 (HP'.out.subset hp)
            exact hno q hq (by simpa [enP] using e)
      have hmL0 : (x, c) ∈ L := by
        rcases mem_low.1 hmL with ⟨h1, _⟩ | ⟨h1, _⟩
        · exact h1
        · rw [hlx] at h1; cases h1
      obtain ⟨hc1, hc2⟩ := HV.out (x, c) hmL0
      have hc1' : 1 ≤ c := hc1
      have hc2' : c ≤ 1000000 := hc2
      clear hc1 hc2
      have hlk1 := hR1.mp.look hkx
      rw [vl_mem (HA.out.low _) hmL] at hlk1
      obtain ⟨w2, hrun2, hR2, hg2⟩ := hR1.put (x := c - 1) hmL hkx ⟨by omega, by omega⟩
      have hlk2 := hR2.mp.look hkx
      rw [vl_put, if_pos rfl] at hlk2
      have hgw2 := hgw1.andThen hg2 (fun j hj => by cases hj; exact Or.inr rfl)
      have ew : IntKind.i64.wrap (c - 1) = c - 1 := by rw [IntKind.wrap_i64]; omega
      have HL : Hid (∀ z, (left (.int .i64 z) && !(Lit.int .i64 z).sameKey (.int .i64 x)) = (left (.int .i64 z) && !(z == x))) := fun z => by rw [sameKey_beq]
      have HR2 : Hid (RgI w2 b w.heap.size (putL x (c - 1) (lowL (fun z => left (.int .i64 z)) L)) (fun z => left z && !z.sameKey (.int .i64 x)) cnt1) := hR2
      have HLE : Hid (wr.rangeLeft b w.heap.size = cnt) := hrg.left_eq
      by_cases hc : c = 1
      · have HCC : Hid (c = 1) := hc
        subst hc
        rw [show (1 : Int) - 1 = 0 from rfl] at hrun2 hlk2
        obtain ⟨l2, n2, hn2, hrg2, hp2⟩ := hR2
        have HP2 : Hid (l2.Perm ((putL x (1 - 1) (lowL (fun z => left (.int .i64 z)) L)).map enP)) := hp2
        clear hR1 hrg hrg1 hp2 hat HR
        go_wp2_with (first
          | (at_delete; refine wpList_delete_ranges _ rfl _ _ 23 3 rfl 3 keyI Tryd.underlying23 _ b w.heap.size n2 _ _ _ rfl hrg2 _ _ rfl (keyOfI hkx) ?_; intro w3 cnt3 hrg3 hle hturn; go_frame)
          | go_in)
        rw [strike_twice] at hrg3
        go_roundw
        case rel =>
          refine ⟨fun z => left z && !z.sameKey (.int .i64 x), cnt3, ?_, hgw2.andThen hturn.grown (fun j hj => by cases hj; exact Or.inr rfl)⟩
          have h3 : RgI w3 b w.heap.size ((putL x (1 - 1) (lowL (fun z => left (.int .i64 z)) L)).filter fun p => p.1 != x) (fun z => left z && !z.sameKey (.int .i64 x)) cnt3 := ⟨_, n2, hn2, by rw [← DataW.del_eq]; exact hrg3, del_perm HP2.out x⟩
          have h4 := h3.perm (low_del HA.out hmL0 HCC.out)
          simp only [HL.out]
          exact h4
        case measure => rw [hrg3.left_eq, HLE.out]; omega
      · have hz : ((c - 1 : Int) == 0) = false := by simp; omega
        clear hR1 hrg hrg1 hR2 hat HR
        go_wp2
        go_roundw
        case rel =>
          refine ⟨fun z => left z && !z.sameKey (.int .i64 x), cnt1, ?_, hgw2⟩
          have h4 := HR2.out.perm (low_put HA.out hmL0 (by omega))
          simp only [HL.out]
          exact h4
        case measure =>
          obtain ⟨l2, n2, hn2, hrg2, hp2⟩ := HR2.out
          rw [hrg2.left_eq, HLE.out]; omega
end Go.Proofs.YtkmbnklfaaopaaaDoor
