/-
  millraceref.Top: what it returns, and that nothing that was there is otherwise. Conditions: the keys lie in memory, numbers of 64 bits, at most 1000.
-/
import Derived.Test.YtkmbnklfaaopaaaDoorSkS1
namespace Go.Proofs.YtkmbnklfaaopaaaDoor
open Go.RowKit Go.Extern.Stop Go.Stop Go.Extern Go.Maps

/-- Those that are no longer to come, one less. -/
def lesL (lf : Int → Bool) (L : List (Int × Int)) : List (Int × Int) := lowL (fun _ => false) (L.filter fun p => !lf p.1)
theorem mem_les {lf : Int → Bool} {L : List (Int × Int)} {q : Int × Int} : q ∈ lesL lf L ↔ lf q.1 = false ∧ (q.1, q.2 + 1) ∈ L ∧ 1 ≤ q.2 := by
  unfold lesL
  rw [mem_low]
  constructor
  · rintro (⟨_, h⟩ | ⟨_, h1, h2⟩)
    · cases h
    · have := List.mem_filter.1 h1
      exact ⟨by simpa using this.2, this.1, h2⟩
  · rintro ⟨h1, h2, h3⟩
    exact Or.inr ⟨rfl, List.mem_filter.2 ⟨h2, by simp [h1]⟩, h3⟩
theorem Ap.les {L : List (Int × Int)} (h : Ap L) (lf : Int → Bool) : Ap (lesL lf L) := (h.filter _).low _
theorem les_put {lf : Int → Bool} {L : List (Int × Int)} (ha : Ap L) {x c : Int} (hm : (x, c) ∈ L) (hc : 2 ≤ c) : (putL x (c - 1) (lesL lf L)).Perm (lesL (fun z => lf z && !(z == x)) L) := by
  refine perm_of_mem ((ha.les _).put _ _).nodup (ha.les _).nodup fun q => ?_
  unfold putL
  rw [List.mem_cons, List.mem_filter, mem_les, mem_les]
  by_cases e : q.1 = x
  · have h1 : (q.1 != x) = false := by simp [e]
    have h2 : (lf q.1 && !(q.1 == x)) = false := by simp [e]
    simp only [h1, h2, Bool.false_eq_true, and_false, or_false, true_and]
    constructor
    · rintro rfl
      exact ⟨by rw [Int.sub_add_cancel]; exact hm, by show 1 ≤ c - 1; omega⟩
    · rintro ⟨h3, h4⟩
      have := ha.eq h3 hm e
      simp only [Prod.mk.injEq] at this
      exact Prod.ext e (by show q.2 = c - 1; omega)
  · have h1 : (q.1 != x) = true := by simp [e]
    have h2 : (lf q.1 && !(q.1 == x)) = lf q.1 := by simp [e]
    have h3 : ¬ q = (x, c - 1) := fun h => e (by rw [h])
    simp only [h1, h2, h3, and_true, false_or]
theorem les_same {lf : Int → Bool} {L : List (Int × Int)} (ha : Ap L) {x c : Int} (hx : lf x = true) (hm : (x, c) ∈ L) (hc : c ≤ 1) : (lesL lf L).Perm (lesL (fun z => lf z && !(z == x)) L) := by
  refine perm_of_mem (ha.les _).nodup (ha.les _).nodup fun q => ?_
  rw [mem_les, mem_les]
  by_cases e : q.1 = x
  · have h2 : (lf q.1 && !(q.1 == x)) = false := by simp [e]
    have h3 : lf q.1 = true := by rw [e]; exact hx
    constructor
    · rintro ⟨h4, _⟩
      rw [h3] at h4
      cases h4
    · rintro ⟨_, h4, h5⟩
      have := ha.eq h4 hm e
      simp only [Prod.mk.injEq] at this
      omega
  · have h2 : (lf q.1 && !(q.1 == x)) = lf q.1 := by simp [e]
    simp only [h2]
theorem les_none {lf : Int → Bool} (h : ∀ z, lf z = false) (L : List (Int × Int)) : lesL lf L = lowL (fun _ => false) L := by
  unfold lesL
  rw [List.filter_eq_self.2 (fun p _ => by simp [h])]
theorem les_start {lf : Int → Bool} {L : List (Int × Int)} (h : ∀ p ∈ L, lf p.1 = true) : lesL lf L = [] := by
  unfold lesL
  rw [List.filter_eq_nil_iff.2 (fun p hp => by simp [h p hp])]
  rfl
theorem les_len (lf : Int → Bool) (L : List (Int × Int)) : (lesL lf L).length ≤ L.length := Nat.le_trans (len_low_le _ _) (List.length_filter_le _ _)
set_option maxRecDepth 20000 in
set_option maxHeartbeats 4000000 in
theorem rtop_any (x : Option Addr) (cap n : Nat) (f : Nat → Int) (c : Int) (w : World) (hx : Row w x n f) (hw : ∀ i, i < n → I64 (f i)) (hn : n ≤ 1000) (hc0 : 1 ≤ c) (hc1 : c ≤ 100) :
    Calls Tryd.prog 6 #[.slice x n cap, .int .i64 c] w fun e w' => (∃ x cap M, e = .returned (.slice x M.length cap) ∧ M.Perm (topN c f n) ∧ M.Pairwise PLt ∧ PrR w' x M) ∧ Below w.heap.size w w' := by
  have HX : Hid (Row w x n f) := hx
  have HW : Hid (∀ i, i < n → I64 (f i)) := hw
  clear hx hw
  have hmm := @run_makeMap Tryd.prog
  go_enter Tryd.func6, Tryd.ntmps6
  go_wp2
  go_loopw [5, 14] (fun mv i wr => ∃ (k mb : Nat), k ≤ n ∧ i = .int .i64 k ∧ mv = .map (some mb) ∧ w.heap.size ≤ mb ∧ MpI wr mb (topN c f k) ∧ Below w.heap.size w wr) (fun _ i _ => n - (intOf i).toNat)
  case atStart => exact ⟨0, w.heap.size, Nat.zero_le _, rfl, rfl, Nat.le_refl _, MpI.made w, (Below.refl _ _).alloc (Nat.le_refl _) _⟩
  case round =>
    obtain ⟨k, mb, hk, rfl, rfl, hmb, hm, hbel⟩ := hrel
    have HM : Hid (MpI wr mb (topN c f k)) := hm
    have HB : Hid (Below w.heap.size w wr) := hbel
    have hc := topN_ok c f k
    by_cases hlt : k < n
    · obtain ⟨b, off, rfl⟩ := HX.out.some (by omega)
      have c0 := (HX.out.below hbel).at hlt
      have hki := HW.out k hlt
      have hv := hc.vl (f k)
      have hlk := hm.look hki
      have hlen := hc.len
      have hlr := hm.lenrun
      have HT : Hid (topN c f (k + 1) = topS c (topN c f k) (f k)) := rfl
      obtain ⟨w2, hrun, hm2, hg2⟩ := hm.upd (x := vl (topN c f k) (f k) + 1) hki ⟨by omega, by omega⟩ (by omega)
      have HM2 : Hid (MpI w2 mb (addL (topN c f k) (f k))) := hm2
      have HB2 : Hid (Below w.heap.size w w2) := below_upd hbel hmb hg2
      have ew : IntKind.i64.wrap (vl (topN c f k) (f k) + 1) = vl (topN c f k) (f k) + 1 := by rw [IntKind.wrap_i64]; omega
      by_cases hpos : 0 < vl (topN c f k) (f k)
      · have HT2 : Hid (topN c f (k + 1) = addL (topN c f k) (f k)) := by show _ = _; rw [HT.out]; unfold topS; rw [if_pos (Or.inl hpos)]
        clear hm hbel hc hm2 hg2 hv hlen
        go_wp2
        go_roundw
        case rel => exact ⟨k + 1, mb, by omega, by go_num, rfl, hmb, by rw [HT2.out]; exact HM2.out, HB2.out⟩
        case measure => simp [intOf]; omega
      · by_cases hfree : ((topN c f k).length : Int) < c
        · have HT2 : Hid (topN c f (k + 1) = addL (topN c f k) (f k)) := by show _ = _; rw [HT.out]; unfold topS; rw [if_pos (Or.inr hfree)]
          clear hm hbel hc hm2 hg2 hv hlen
          go_wp2
          go_roundw
          case rel => exact ⟨k + 1, mb, by omega, by go_num, rfl, hmb, by rw [HT2.out]; exact HM2.out, HB2.out⟩
          case measure => simp [intOf]; omega
        · have HT2 : Hid (topN c f (k + 1) = lowL (fun _ => false) (topN c f k)) := by show _ = _; rw [HT.out]; unfold topS; rw [if_neg (by omega)]
          have HVV : Hid (∀ p ∈ topN c f k, 1 ≤ p.2 ∧ p.2 ≤ 1000) := fun p hp => by have := hc.val p hp; omega
          have HAP : Hid (Ap (topN c f k)) := hc.ap
          have HLEN : Hid ((topN c f k).length ≤ k) := hlen
          have hml := hm.lt
          clear hbel hc hm2 hg2 hv hlen hrun HM2 HB2 HT hm
          generalize topN c f k = L at *
          have hmA : MpI (wr.alloc (.map #[] 0)) mb L := HM.out.block (Below.heap_alloc _ _ _ hml)
          obtain ⟨l, hown, hp⟩ := hmA
          have HP : Hid (l.Perm (L.map enP)) := hp
          clear hp
          go_wp2_with (first
            | (at_range; refine wpList_range_own _ rfl _ 23 rfl 3 3 keyI Tryd.underlying23 _ mb _ _ rfl hown ?_; intro w0 hrg0 hg0 hs0)
            | go_in)
          have hsA : (wr.alloc (.map #[] 0)).heap.size = wr.heap.size + 1 := by simp
          rw [hsA] at hrg0 hs0
          have HMD : Hid (MpI w0 wr.heap.size []) := (MpI.made wr).block (hg0.block _ (by simp) (by simp))
          have HB0 : Hid (Below w.heap.size w w0) := (HB.out.alloc HB.out.size _).grown hg0 (by simp; have := HB.out.size; omega) (fun j e => by cases e)
          have hsz0 : w.heap.size ≤ wr.heap.size := HB.out.size
          clear hg0 hs0 hsA hown
          generalize wr.heap.size = SZ at *
          go_loopw [9] (fun _ wx => ∃ (left : Lit → Bool) (cnt : Nat), wx.ranges Tryd.prog 3 (plainElem Tryd.prog 3) mb (SZ + 1) L.length (.map l) left cnt ∧ MpI wx SZ (lesL (fun z => left (.int .i64 z)) L) ∧ Below w.heap.size w wx)
            (fun _ wx => wx.rangeLeft mb (SZ + 1))
          case atStart =>
            refine ⟨_, _, hrg0, ?_, HB0.out⟩
            rw [les_start]
            · exact HMD.out
            · intro p hpm
              exact List.any_eq_true.2 ⟨enP p, HP.out.symm.subset (List.mem_map.2 ⟨p, hpm, rfl⟩), WideAt.sameKey_self (isKeyJ p.1)⟩
          case round =>
            obtain ⟨left, cnt, hrg, hme, hbe⟩ := hrel
            have HME : Hid (MpI wr SZ (lesL (fun z => left (.int .i64 z)) L)) := hme
            have HBE : Hid (Below w.heap.size w wr) := hbe
            clear hme hbe hrg0
            go_wp2_with (first
              | (at_next; refine wpList_next_ranges_ii _ rfl _ rfl 3 3 .i64 .i64 keyI Tryd.underlying3 Tryd.underlying3 mb (SZ + 1) L.length _ _ _ rfl hrg ?_ ?_)
              | go_in)
            · intro _ hl0
              go_wp2
              go_roundw
              case rel =>
                refine ⟨k + 1, SZ, by omega, by go_num, rfl, hsz0, ?_, HBE.out⟩
                rw [HT2.out, ← les_none (fun z => hl0 _)]
                exact HME.out
              case measure => simp [intOf]; omega
            · intro x' c' w1 cnt1 hwx hwc hlx hat hrg1 hlt1 hg1 hs1 hen
              have hkx : I64 x' := by
                have e : (Lit.int .i64 x').wf = (decide (IntKind.i64.min ≤ x') && decide (x' ≤ IntKind.i64.max)) := rfl
                rw [e, Bool.and_eq_true, decide_eq_true_eq, decide_eq_true_eq] at hwx
                have e1 : IntKind.i64.min = -9223372036854775808 := by decide
                have e2 : IntKind.i64.max = 9223372036854775807 := by decide
                rw [e1, e2] at hwx
                exact hwx
              have hmL : (x', c') ∈ L := by
                have hl := look_of (pw_of hrg1.owns) HP.out x'
                rw [hat] at hl
                have hc : c' = vl L x' := by simpa using hl
                rcases vl_cases L x' with ⟨v, hm, hv⟩ | ⟨hno, _⟩
                · rw [hc, hv]; exact hm
                · exfalso
                  have h1 := hat .nil
                  rw [WideAt.atKey_none] at h1
                  · cases h1
                  · intro p hp e
                    obtain ⟨q, hq, rfl⟩ := List.mem_map.1 (HP.out.subset hp)
                    exact hno q hq (by simpa [enP] using e)
              obtain ⟨v1, v2⟩ := HVV.out _ hmL
              have v1' : 1 ≤ c' := v1
              have v2' : c' ≤ 1000 := v2
              have hbig := HBE.out.size
              have HB1 : Hid (Below w.heap.size w w1) := HBE.out.grown hg1 HBE.out.size (fun j e => by cases e; omega)
              have HM1 : MpI w1 SZ (lesL (fun z => left (.int .i64 z)) L) := HME.out.block (hg1.block _ HME.out.lt (by simp))
              have HLE : Hid (wr.rangeLeft mb (SZ + 1) = cnt) := hrg.left_eq
              have HRG1 : Hid (w1.ranges Tryd.prog 3 (plainElem Tryd.prog 3) mb (SZ + 1) L.length (.map l) (fun z => left z && !z.sameKey (.int .i64 x')) cnt1) := hrg1
              have HL : Hid (∀ z, (left (.int .i64 z) && !(Lit.int .i64 z).sameKey (.int .i64 x')) = (left (.int .i64 z) && !(z == x'))) := fun z => by rw [sameKey_beq]
              have hlesl := les_len (fun z => left (.int .i64 z)) L
              obtain ⟨w2, hrun, hm2, hg2⟩ := HM1.upd (x := c' - 1) hkx ⟨by omega, by omega⟩ (by have := HLEN.out; omega)
              have ew1 : IntKind.i64.wrap (c' - 1) = c' - 1 := by rw [IntKind.wrap_i64]; omega
              by_cases hc2 : 1 < c'
              · have HM2 : Hid (MpI w2 SZ (lesL (fun z => left (.int .i64 z) && !(Lit.int .i64 z).sameKey (.int .i64 x')) L)) := by
                  show MpI _ _ _
                  simp only [HL.out]
                  exact hm2.perm (les_put HAP.out hmL (by omega))
                have HRG2 : Hid (w2.ranges Tryd.prog 3 (plainElem Tryd.prog 3) mb (SZ + 1) L.length (.map l) (fun z => left z && !z.sameKey (.int .i64 x')) cnt1) := HRG1.out.kept hg2 (by simp; omega) (by simp)
                have HB2 : Hid (Below w.heap.size w w2) := HB1.out.grown hg2 HB1.out.size (fun j e => by cases e; omega)
                clear hrg hrg1 hm2 hg1 hg2 hat HM1
                go_wp2
                go_roundw
                case rel => exact ⟨_, cnt1, HRG2.out, HM2.out, HB2.out⟩
                case measure => rw [HRG2.out.left_eq, HLE.out]; omega
              · have HM2 : Hid (MpI w1 SZ (lesL (fun z => left (.int .i64 z) && !(Lit.int .i64 z).sameKey (.int .i64 x')) L)) := by
                  show MpI _ _ _
                  simp only [HL.out]
                  exact HM1.perm (les_same HAP.out hlx hmL (by omega))
                clear hrg hrg1 hm2 hg1 hg2 hat HM1 hrun
                go_wp2
                go_roundw
                case rel => exact ⟨_, cnt1, HRG1.out, HM2.out, HB1.out⟩
                case measure => rw [HRG1.out.left_eq, HLE.out]; omega
    · obtain rfl : k = n := by omega
      have hlen := hc.len
      clear hm hbel hc
      go_wp2_with fail
      refine (sorted_any mb (topN c f k) wr HM.out (by omega)).mono ?_
      rintro e w' ⟨⟨x', cap', M, rfl, h1, h2, h3⟩, hb⟩
      have HR : Hid (M.Perm (topN c f k) ∧ M.Pairwise PLt ∧ PrR w' x' M) := ⟨h1, h2, h3⟩
      have HBB : Hid (Below w.heap.size w w') := HB.out.trans (hb.mono HB.out.size)
      clear h1 h2 h3 hb
      go_wp2
      go_ret
      exact ⟨⟨x', cap', M, rfl, HR.out⟩, HBB.out⟩
end Go.Proofs.YtkmbnklfaaopaaaDoor
