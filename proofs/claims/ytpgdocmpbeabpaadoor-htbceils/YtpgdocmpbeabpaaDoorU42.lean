/-
  bucket.open: of a bucket that may not be what Check says; of packets that may not be what List says; else a full bucket; nothing that was there before is otherwise. Conditions: errors.errorType holds its handle; the packets lie in memory.
  Rows of bools in memory. Nothing is claimed here by itself.
  bucket.each[bool]: of packets that lie in memory it returns, in new memory, what the function that is handed to it returns of each, in order. Conditions: at most 100 packets; the function returns (its contract is a premise) and writes blocks of S alone, among which none holds the packets.
-/
import Derived.Test.YtpgdocmpbeabpaaDoorU9
import Derived.Test.YtpgdocmpbeabpaaDoorListA
import Derived.Shelf.Abstract
import Derived.Test.YtpgdocmpbeabpaaDoorBk1
import Derived.Maps.AppendAt
namespace Go.Proofs.YtpgdocmpbeabpaaDoor
open Go.RowKit Go.Extern.Stop Go.Stop Go.Extern

/-- Packets that may be. -/
def okL (xs : List It) : Prop := (listE xs).1 = 0
theorem okL.fine {xs : List It} (h : okL xs) : Fine xs ∧ xs.length ≤ 100 := by
  unfold okL at h
  have hl : ¬ 100 < xs.length := fun hl => by rw [listE_long hl] at h; simp at h
  have hf : ∀ j, j < xs.length → faultAt xs j = 0 := by
    intro j hj
    cases hb : firstBad xs with
    | none =>
      unfold firstBad at hb
      simp at hb
      exact hb j hj
    | some i =>
      exfalso
      simp only [listE, hl, if_false, hb] at h
      unfold firstBad at hb
      rw [List.find?_range_eq_some] at hb
      have := hb.1
      simp [h] at this
  refine ⟨fun k x hx => ?_, by omega⟩
  have hk : k < xs.length := (List.getElem?_eq_some_iff.1 hx).1
  have h1 := hf k hk
  have hok : x.ok = true := by
    cases ho : x.ok with
    | true => rfl
    | false => rw [fault_range hx ho] at h1; simp at h1
  have hok' := hok
  simp only [It.ok, Bool.and_eq_true, wth_iff] at hok'
  refine ⟨by omega, fun y hy => ?_⟩
  have hk1 : k + 1 < xs.length := (List.getElem?_eq_some_iff.1 hy).1
  have h2 := hf (k + 1) hk1
  have hoy : y.ok = true := by
    cases ho : y.ok with
    | true => rfl
    | false => rw [fault_range hy ho] at h2; simp at h2
  by_cases hc : y.a < x.a
  · rw [fault_order hy hx hoy hc] at h2; simp at h2
  · omega
theorem okL.nil {w : World} {v : Value} {xs : List It} (h : okL xs) (he : ErrIs w v (listE xs).1 (listE xs).2) : v = .nilIface := by
  rw [show (listE xs).1 = 0 from h] at he
  rcases he with ⟨h, _⟩ | ⟨_, h, _⟩ | ⟨_, _, _, _, h, _⟩
  · exact h
  · exact absurd rfl h
  · exact absurd rfl h
/-- An error that is one is no nil. -/
theorem ErrIs.iface {w : World} {v : Value} {E P : Int} (h : ErrIs w v E P) (hE : E ≠ 0) : ∃ t u, v = .iface t u := by
  rcases h with ⟨_, h, _⟩ | ⟨h, _⟩ | ⟨a, h, _⟩
  · exact absurd h hE
  · exact ⟨_, _, h⟩
  · exact ⟨_, _, h⟩

theorem ItemsAt.lt {w : World} {b off : Nat} {xs : List It} (h : ItemsAt w (some ⟨b, off, none⟩) xs) (h0 : xs ≠ []) : b < w.heap.size := by
  rcases h with h | ⟨b', off', e, hI⟩
  · exact absurd h h0
  · cases e
    obtain ⟨y, hy⟩ : ∃ y, xs[0]? = some y := by
      cases xs with
      | nil => exact absurd rfl h0
      | cons y ys => exact ⟨y, rfl⟩
    exact lt_of_cell (hI 0 y hy).1
theorem open_nob (n t R : Int) (l : Value) (w : World) (h : ¬ okB n t R) :
    Calls Tryd.prog 22 #[.agg #[.int .i64 n, .int .i64 t, .int .i64 R], l] w fun e w' => e = .returned (.tuple #[.pointer none, .iface 65 (.int .i64 2)]) ∧ Below w.heap.size w w' := by
  have H : Hid (¬ okB n t R) := h
  clear h
  go_enter Tryd.func22, Tryd.ntmps22
  go_wp2_with (go_at_call 38; refine (new_no _ _ _ _ H.out).mono ?_; rintro e w1 ⟨rfl, hb1⟩)
  go_ret2
  exact ⟨rfl, ((Below.refl _ _).alloc (Nat.le_refl _) _).trans (hb1.mono (by simp))⟩
theorem open_nol (n t R : Int) (x : Option Addr) (cap : Nat) (xs : List It) (w : World) (h : okB n t R) (hl : ¬ okL xs) (hL : Laid w) (hI : ItemsAt w x xs) (hm : xs.length ≤ maxLen) :
    Calls Tryd.prog 22 #[.agg #[.int .i64 n, .int .i64 t, .int .i64 R], .slice x xs.length cap] w fun e w' => ∃ v, e = .returned (.tuple #[.pointer none, v]) ∧ ErrIs w' v (listE xs).1 (listE xs).2 ∧ Below w.heap.size w w' := by
  have H : Hid (okB n t R) := h
  have HM : Hid (xs.length ≤ maxLen) := hm
  have HN : Hid (¬ okL xs) := hl
  clear h hm hl
  go_enter Tryd.func22, Tryd.ntmps22
  go_wp2_with fail
  refine (new_yes _ _ _ _ H.out).mono ?_
  rintro e w1 ⟨s, rfl, hs, hst, hb1⟩
  have hB : Below w.heap.size w w1 := ((Below.refl _ _).alloc (Nat.le_refl _) _).trans (hb1.mono (by simp))
  have hL1 : Laid w1 := hL.below hB
  have hI1 := hI.below hB
  clear hst
  go_wp2_with fail
  refine (list_any x cap xs w1 hL1 hI1 HM.out).mono ?_
  rintro e w2 ⟨v, rfl, he, hb2⟩
  obtain ⟨t', u', rfl⟩ := he.iface HN.out
  have HE : Hid (ErrIs w2 (.iface t' u') (listE xs).1 (listE xs).2) := he
  clear he
  go_wp2
  go_ret2
  exact ⟨_, rfl, HE.out, hB.trans (hb2.mono hB.size)⟩
theorem open_yes (n t R : Int) (x : Option Addr) (cap : Nat) (xs : List It) (w : World) (h : okB n t R) (hl : okL xs) (hL : Laid w) (hI : ItemsAt w x xs) (hm : xs.length ≤ maxLen) :
    Calls Tryd.prog 22 #[.agg #[.int .i64 n, .int .i64 t, .int .i64 R], .slice x xs.length cap] w fun e w' => ∃ s, e = .returned (.tuple #[.pointer (some ⟨s, 0, none⟩), .nilIface]) ∧ w.heap.size ≤ s ∧ StAt w' s n t R (R * t) 0 ∧ Below w.heap.size w w' := by
  have H : Hid (okB n t R) := h
  have HM : Hid (xs.length ≤ maxLen) := hm
  have HN : Hid (okL xs) := hl
  clear h hm hl
  go_enter Tryd.func22, Tryd.ntmps22
  go_wp2_with fail
  refine (new_yes _ _ _ _ H.out).mono ?_
  rintro e w1 ⟨s, rfl, hs, hst, hb1⟩
  have hB : Below w.heap.size w w1 := ((Below.refl _ _).alloc (Nat.le_refl _) _).trans (hb1.mono (by simp))
  have hL1 : Laid w1 := hL.below hB
  have hI1 := hI.below hB
  have HS : Hid (StAt w1 s n t R (R * t) 0) := hst
  clear hst
  go_wp2_with fail
  refine (list_any x cap xs w1 hL1 hI1 HM.out).mono ?_
  rintro e w2 ⟨v, rfl, he, hb2⟩
  obtain rfl := HN.out.nil he
  clear he
  go_wp2
  go_ret2
  exact ⟨s, rfl, by simp at hs; omega, HS.out.kept (S := fun _ => False) (Oth.of_below hb2) id, hB.trans (hb2.mono hB.size)⟩
end Go.Proofs.YtpgdocmpbeabpaaDoor
namespace Go.Proofs.YtpgdocmpbeabpaaDoor
open Go.RowKit Go.Extern.Stop Go.Stop Go.Extern

theorem infoB : (Tryd.prog.info? 4).map (fun i => (i.zero, i.size, i.bytes)) = some (some (.bool false), 1, 1) := by kernel_rfl

/-- What each returned, up to k. -/
def toldB (r : Nat → Bool) (k : Nat) : List Value := (List.range k).map fun j => .bool (r j)
theorem toldB_succ (r : Nat → Bool) (k : Nat) : toldB r (k + 1) = toldB r k ++ [.bool (r k)] := by simp [toldB, List.range_succ]
theorem toldB_at (r : Nat → Bool) (k j : Nat) (h : j < k) : (toldB r k)[j]? = some (.bool (r j)) := by simp [toldB, h]

/-- A row of bools in memory. -/
def RowB (w : World) (g : Nat) (n : Nat) (r : Nat → Bool) : Prop := ∀ j, j < n → w.cell? ⟨g, j, none⟩ = some (.bool (r j))
theorem RowB.kept {w w' : World} {g n : Nat} {r : Nat → Bool} {S : Nat → Prop} (h : RowB w g n r) (ho : Oth S w w') (hs : ¬ S g) : RowB w' g n r := fun j hj => by
  rw [ho.cell (p := ⟨g, j, none⟩) (lt_of_cell (h j hj)) hs]; exact h j hj
theorem rowB_of_owns {w : World} {B g n cap : Nat} {r : Nat → Bool} (h : w.ownsRow B 4 1 (.slice (some ⟨g, 0, none⟩) n cap) n (toldB r n)) : RowB w g n r := by
  intro j hj
  rcases h.2 with ⟨hc, _⟩ | ⟨g', cap', cur, hv, hg, hh, hn, _, hs, ht⟩
  · simp at hc
  · simp only [Value.slice.injEq, Option.some.injEq, Addr.mk.injEq, and_true, true_and] at hv
    obtain ⟨rfl, rfl⟩ := hv
    have hsz : j < cur.size := by omega
    have h1 : cur.toList[j]? = some (.bool (r j)) := by
      have := toldB_at r n j hj
      rw [← ht, List.getElem?_take, if_pos (by omega)] at this
      exact this
    simp only [World.cell?, hh]
    simpa using h1
end Go.Proofs.YtpgdocmpbeabpaaDoor
namespace Go.Proofs.YtpgdocmpbeabpaaDoor
open Go.RowKit Go.Extern.Stop Go.Stop Go.Extern

set_option maxRecDepth 20000 in
set_option maxHeartbeats 2000000 in
theorem eachB_any (cf : Nat) (caps : Array Value) (x0 : Option Addr) (cap : Nat) (xs : List It) (r : Nat → Bool) (J : Nat → World → Prop) (S : Nat → Prop) (w : World)
    (hI : ItemsAt w x0 xs) (hS : ∀ k, S k → k < w.heap.size) (hSx : ∀ b off, x0 = some ⟨b, off, none⟩ → xs ≠ [] → ¬ S b) (h100 : xs.length ≤ 100) (hent : ∀ (args : Array Value) (W : World), (callFunc cf args).run Tryd.prog W = .ok (.enter cf args) W) (hJ0 : J 0 w) (hJ : ∀ k W W', J k W → Below w.heap.size W W' → J k W')
    (hstep : ∀ (k : Nat) (x : It) (W : World), xs[k]? = some x → J k W → Calls Tryd.prog cf (#[.agg #[.int .i64 x.a, .int .i64 x.l, .int .i64 x.f, .int .i64 x.b, .int .i64 x.m]] ++ caps) W fun e W' => e = .returned (.bool (r k)) ∧ J (k + 1) W' ∧ Oth S W W') :
    Calls Tryd.prog 23 #[.slice x0 xs.length cap, .func (.func cf) #[] caps] w fun e w' => ∃ g, e = .returned (.slice (some ⟨g, 0, none⟩) xs.length xs.length) ∧ w.heap.size ≤ g ∧ RowB w' g xs.length r ∧ J xs.length w' ∧ Oth S w w' := by
  obtain ⟨i0, hi, hz0, hz1, hz2⟩ := info_parts infoB
  have HI : Hid (ItemsAt w x0 xs) := hI
  have HS : Hid (∀ k, S k → k < w.heap.size) := hS
  have HSX : Hid (∀ b off, x0 = some ⟨b, off, none⟩ → xs ≠ [] → ¬ S b) := hSx
  have HJ0 : Hid (J 0 w) := hJ0
  have HJ : Hid (∀ k W W', J k W → Below w.heap.size W W' → J k W') := hJ
  have HST : Hid (∀ (k : Nat) (x : It) (W : World), xs[k]? = some x → J k W → Calls Tryd.prog cf (#[.agg #[.int .i64 x.a, .int .i64 x.l, .int .i64 x.f, .int .i64 x.b, .int .i64 x.m]] ++ caps) W fun e W' => e = .returned (.bool (r k)) ∧ J (k + 1) W' ∧ Oth S W W') := hstep
  clear hI hS hSx hJ0 hJ hstep
  generalize hn : xs.length = n at *
  have HN : Hid (xs.length = n) := hn
  clear hn
  go_enter Tryd.func23, Tryd.ntmps23
  go_wp2_with (at_make; refine wpList_make_own _ rfl _ _ 49 rfl w.heap.size 4 i0 (.bool false) 1 Tryd.underlying49 hi hz0 hz1 _ _ _ n rfl rfl (by omega) (by rw [hz2]; omega) (by unfold maxLen; omega) (Nat.le_refl _) ?_; intro w1 hown1 hgrow1)
  go_loopw [5, 13] (fun o i wr => ∃ k : Nat, k ≤ n ∧ i = .int .i64 k ∧ o = .slice (some ⟨w.heap.size, 0, none⟩) k n ∧ wr.ownsRow w.heap.size 4 1 (.slice (some ⟨w.heap.size, 0, none⟩) k n) k (toldB r k) ∧ J k wr ∧ Oth S w wr) (fun _ i _ => n - (intOf i).toNat)
  case atStart =>
    have hb : Below w.heap.size w w1 := (Below.refl _ _).grown hgrow1 (Nat.le_refl _) (by simp)
    exact ⟨0, Nat.zero_le _, rfl, rfl, hown1, HJ.out 0 w w1 HJ0.out hb, Oth.of_below hb⟩
  case round =>
    clear hown1 hgrow1
    obtain ⟨k, hk, rfl, rfl, hown, hj, hoth⟩ := hrel
    have HJK : Hid (J k wr) := hj
    clear hj
    by_cases hlt : k < n
    · obtain ⟨x, hx⟩ : ∃ x, xs[k]? = some x := ⟨_, List.getElem?_eq_getElem (by have := HN.out; omega)⟩
      have HX : Hid (xs[k]? = some x) := hx
      rcases HI.out with he | ⟨b, off, rfl, hI⟩
      · exfalso; rw [he] at hx; simp at hx
      obtain ⟨d0, d1, d2, d3, d4⟩ := hI k x hx
      have hnS := HSX.out b off rfl (by rintro rfl; simp at hx)
      have c0 : wr.cell? ⟨b, off + k * 5, none⟩ = some (.int .i64 x.a) := by rw [hoth.cell (lt_of_cell d0) hnS]; exact d0
      have c1 : wr.cell? ⟨b, off + k * 5 + 1, none⟩ = some (.int .i64 x.l) := by rw [hoth.cell (lt_of_cell d1) hnS]; exact d1
      have c2 : wr.cell? ⟨b, off + k * 5 + 2, none⟩ = some (.int .i64 x.f) := by rw [hoth.cell (lt_of_cell d2) hnS]; exact d2
      have c3 : wr.cell? ⟨b, off + k * 5 + 3, none⟩ = some (.int .i64 x.b) := by rw [hoth.cell (lt_of_cell d3) hnS]; exact d3
      have c4 : wr.cell? ⟨b, off + k * 5 + 4, none⟩ = some (.int .i64 x.m) := by rw [hoth.cell (lt_of_cell d4) hnS]; exact d4
      clear hx d0 d1 d2 d3 d4 hI hnS
      have HO : Hid (wr.ownsRow w.heap.size 4 1 (.slice (some ⟨w.heap.size, 0, none⟩) k n) k (toldB r k)) := hown
      have HOT : Hid (Oth S w wr) := hoth
      clear hown hoth
      go_wp2_with fail
      have hbA : Below w.heap.size wr (wr.alloc (.cells #[.int .i64 x.a, .int .i64 x.l, .int .i64 x.f, .int .i64 x.b, .int .i64 x.m] 37)) := (Below.refl _ _).alloc HOT.out.size _
      refine (HST.out k x _ HX.out (HJ.out k _ _ HJK.out hbA)).mono ?_
      rintro e w1 ⟨rfl, hj1, ho1⟩
      have HJ1 : Hid (J (k + 1) w1) := hj1
      have ho01 : Oth S wr w1 := ((Oth.refl S wr).alloc _).trans ho1
      have hnSg : ¬ S w.heap.size := fun h => by have := HS.out _ h; omega
      have hgl : w.heap.size < wr.heap.size := by have := (HO.out.lt w.heap.size rfl).2; exact this
      have hown1 : w1.ownsRow w.heap.size 4 1 (.slice (some ⟨w.heap.size, 0, none⟩) k n) k (toldB r k) := by
        refine ⟨HO.out.1, ?_⟩
        rcases HO.out.2 with h | ⟨g, cp, cur, hv, hg, hh, rest⟩
        · exact Or.inl h
        · simp only [Value.slice.injEq, Option.some.injEq, Addr.mk.injEq, and_true, true_and] at hv
          obtain ⟨rfl, rfl⟩ := hv
          exact Or.inr ⟨_, _, cur, rfl, hg, by rw [ho01.block _ hgl hnSg]; exact hh, rest⟩
      clear hj1 ho1 c0 c1 c2 c3 c4 hbA
      go_wp2_with (at_builtin; refine wpList_append_fits _ rfl _ _ 49 rfl w.heap.size 4 i0 1 Tryd.underlying49 hi hz1 w.heap.size k n _ rfl (hown1.alloc _) ⟨w1.heap.size, 0, none⟩ 1 1 [.bool (r k)] rfl rfl (cell_one_new _ _ _) (by simp [Value.oneCell']) (by omega) ?_; intro w2 hown2 hgrow2)
      go_roundw
      case rel =>
        have hb2 : Below w.heap.size w1 w2 := ((Below.refl _ _).alloc (by have := ho01.size; omega) _).grown hgrow2 (by simp; have := ho01.size; omega) (fun k e => by cases e; exact Nat.le_refl _)
        refine ⟨k + 1, by omega, by go_num, rfl, by rw [toldB_succ]; exact hown2, HJ.out _ _ _ HJ1.out hb2, (HOT.out.trans ho01).then_below hb2⟩
      case measure => simp [intOf]; omega
    · obtain rfl : k = n := by omega
      have HO : Hid (wr.ownsRow w.heap.size 4 1 (.slice (some ⟨w.heap.size, 0, none⟩) k k) k (toldB r k)) := hown
      have HOT : Hid (Oth S w wr) := hoth
      clear hown hoth
      go_wp2
      go_ret
      exact ⟨_, rfl, Nat.le_refl _, rowB_of_owns HO.out, HJK.out, HOT.out⟩
end Go.Proofs.YtpgdocmpbeabpaaDoor
