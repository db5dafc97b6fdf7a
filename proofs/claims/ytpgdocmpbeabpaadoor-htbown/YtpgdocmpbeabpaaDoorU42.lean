/-
  bucket.each[bool]: of packets that lie in memory it returns, in new memory, what the function that is handed to it returns of each, in order. Conditions: at most 100 packets; the function returns (its contract is a premise) and writes blocks of S alone, among which none holds the packets.
  bucket.Conform: of a bucket that may not be, or of packets that may not be, the error; else, in new memory, which packets conform; nothing that was there before is otherwise. Conditions: errors.errorType holds its handle; the packets lie in memory.
-/
import Derived.Test.YtpgdocmpbeabpaaDoorBk3
import Derived.Test.YtpgdocmpbeabpaaDoorU40
import Derived.Maps.AppendAt
namespace Go.Proofs.YtpgdocmpbeabpaaDoor
open Go.RowKit Go.Extern.Stop Go.Stop Go.Extern

set_option maxRecDepth 20000 in
set_option maxHeartbeats 2000000 in
theorem eachB_any (cf : Nat) (caps : Array Value) (x0 : Option Addr) (cap : Nat) (xs : List It) (r : Nat → Bool) (J : Nat → World → Prop) (S : Nat → Prop) (w : World)
    (hI : ItemsAt w x0 xs) (hS : ∀ k, S k → k < w.heap.size) (hSx : ∀ b off, x0 = some ⟨b, off, none⟩ → xs ≠ [] → ¬ S b) (h100 : xs.length ≤ 100) (hent : ∀ (args : Array Value) (W : World), (callFunc cf args).run Tryd.prog W = .ok (.enter cf args) W) (hJ0 : J 0 w) (hJ : ∀ k W W', J k W → Below w.heap.size W W' → J k W')
    (hstep : ∀ (k : Nat) (x : It) (W : World), xs[k]? = some x → J k W → Calls Tryd.prog cf (#[.agg #[.int .i64 x.a, .int .i64 x.l, .int .i64 x.f, .int .i64 x.b, .int .i64 x.m]] ++ caps) W fun e W' => e = .returned (.bool (r k)) ∧ J (k + 1) W' ∧ Oth S W W') :
    Calls Tryd.prog 23 #[.slice x0 xs.length cap, .func (.func cf) #[] caps] w fun e w' => ∃ g, e = .returned (.slice (some ⟨g, 0, none⟩) xs.length xs.length) ∧ w.heap.size ≤ g ∧ RowB w' g xs.length r ∧ J xs.length w' ∧ Oth S w w' := by
  obtain ⟨i0, hi, hz0, hz1, hz2⟩ := info_parts infoB
  have HI : Hid (ItemsAt w x0 xs) := hI
  have HS : Hid (∀ k, S k → k < w.heap.size) := hS
  have HSX : Hid (∀ b off, x0 = some ⟨b, off, none⟩ → xs ≠ [] → ¬ S b) := hSx
  have HJ0 : Hid (J 0 w) := hJ0
  have HJ : Hid (∀ k W W', J k W → Below w.heap.size W W' → J k W') := hJ
  have HST : Hid (∀ (k : Nat) (x : It) (W : World), xs[k]? = some x → J k W → Calls Tryd.prog cf (#[.agg #[.int .i64 x.a, .int .i64 x.l, .int .i64 x.f, .int .i64 x.b, .int .i64 x.m]] ++ caps) W fun e W' => e = .returned (.bool (r k)) ∧ J (k + 1) W' ∧ Oth S W W') := hstep
  clear hI hS hSx hJ0 hJ hstep
  generalize hn : xs.length = n at *
  have HN : Hid (xs.length = n) := hn
  clear hn
  go_enter Tryd.func23, Tryd.ntmps23
  go_wp2_with (at_make; refine wpList_make_own _ rfl _ _ 49 rfl w.heap.size 4 i0 (.bool false) 1 Tryd.underlying49 hi hz0 hz1 _ _ _ n rfl rfl (by omega) (by rw [hz2]; omega) (by unfold maxLen; omega) (Nat.le_refl _) ?_; intro w1 hown1 hgrow1)
  go_loopw [5, 13] (fun o i wr => ∃ k : Nat, k ≤ n ∧ i = .int .i64 k ∧ o = .slice (some ⟨w.heap.size, 0, none⟩) k n ∧ wr.ownsRow w.heap.size 4 1 (.slice (some ⟨w.heap.size, 0, none⟩) k n) k (toldB r k) ∧ J k wr ∧ Oth S w wr) (fun _ i _ => n - (intOf i).toNat)
  case atStart =>
    have hb : Below w.heap.size w w1 := (Below.refl _ _).grown hgrow1 (Nat.le_refl _) (by simp)
    exact ⟨0, Nat.zero_le _, rfl, rfl, hown1, HJ.out 0 w w1 HJ0.out hb, Oth.of_below hb⟩
  case round =>
    clear hown1 hgrow1
    obtain ⟨k, hk, rfl, rfl, hown, hj, hoth⟩ := hrel
    have HJK : Hid (J k wr) := hj
    clear hj
    by_cases hlt : k < n
    · obtain ⟨x, hx⟩ : ∃ x, xs[k]? = some x := ⟨_, List.getElem?_eq_getElem (by have := HN.out; omega)⟩
      have HX : Hid (xs[k]? = some x) := hx
      rcases HI.out with he | ⟨b, off, rfl, hI⟩
      · exfalso; rw [he] at hx; simp at hx
      obtain ⟨d0, d1, d2, d3, d4⟩ := hI k x hx
      have hnS := HSX.out b off rfl (by rintro rfl; simp at hx)
      have c0 : wr.cell? ⟨b, off + k * 5, none⟩ = some (.int .i64 x.a) := by rw [hoth.cell (lt_of_cell d0) hnS]; exact d0
      have c1 : wr.cell? ⟨b, off + k * 5 + 1, none⟩ = some (.int .i64 x.l) := by rw [hoth.cell (lt_of_cell d1) hnS]; exact d1
      have c2 : wr.cell? ⟨b, off + k * 5 + 2, none⟩ = some (.int .i64 x.f) := by rw [hoth.cell (lt_of_cell d2) hnS]; exact d2
      have c3 : wr.cell? ⟨b, off + k * 5 + 3, none⟩ = some (.int .i64 x.b) := by rw [hoth.cell (lt_of_cell d3) hnS]; exact d3
      have c4 : wr.cell? ⟨b, off + k * 5 + 4, none⟩ = some (.int .i64 x.m) := by rw [hoth.cell (lt_of_cell d4) hnS]; exact d4
      clear hx d0 d1 d2 d3 d4 hI hnS
      have HO : Hid (wr.ownsRow w.heap.size 4 1 (.slice (some ⟨w.heap.size, 0, none⟩) k n) k (toldB r k)) := hown
      have HOT : Hid (Oth S w wr) := hoth
      clear hown hoth
      go_wp2_with fail
      have hbA : Below w.heap.size wr (wr.alloc (.cells #[.int .i64 x.a, .int .i64 x.l, .int .i64 x.f, .int .i64 x.b, .int .i64 x.m] 37)) := (Below.refl _ _).alloc HOT.out.size _
      refine (HST.out k x _ HX.out (HJ.out k _ _ HJK.out hbA)).mono ?_
      rintro e w1 ⟨rfl, hj1, ho1⟩
      have HJ1 : Hid (J (k + 1) w1) := hj1
      have ho01 : Oth S wr w1 := ((Oth.refl S wr).alloc _).trans ho1
      have hnSg : ¬ S w.heap.size := fun h => by have := HS.out _ h; omega
      have hgl : w.heap.size < wr.heap.size := by have := (HO.out.lt w.heap.size rfl).2; exact this
      have hown1 : w1.ownsRow w.heap.size 4 1 (.slice (some ⟨w.heap.size, 0, none⟩) k n) k (toldB r k) := by
        refine ⟨HO.out.1, ?_⟩
        rcases HO.out.2 with h | ⟨g, cp, cur, hv, hg, hh, rest⟩
        · exact Or.inl h
        · simp only [Value.slice.injEq, Option.some.injEq, Addr.mk.injEq, and_true, true_and] at hv
          obtain ⟨rfl, rfl⟩ := hv
          exact Or.inr ⟨_, _, cur, rfl, hg, by rw [ho01.block _ hgl hnSg]; exact hh, rest⟩
      clear hj1 ho1 c0 c1 c2 c3 c4 hbA
      go_wp2_with (at_builtin; refine wpList_append_fits _ rfl _ _ 49 rfl w.heap.size 4 i0 1 Tryd.underlying49 hi hz1 w.heap.size k n _ rfl (hown1.alloc _) ⟨w1.heap.size, 0, none⟩ 1 1 [.bool (r k)] rfl rfl (cell_one_new _ _ _) (by simp [Value.oneCell']) (by omega) ?_; intro w2 hown2 hgrow2)
      go_roundw
      case rel =>
        have hb2 : Below w.heap.size w1 w2 := ((Below.refl _ _).alloc (by have := ho01.size; omega) _).grown hgrow2 (by simp; have := ho01.size; omega) (fun k e => by cases e; exact Nat.le_refl _)
        refine ⟨k + 1, by omega, by go_num, rfl, by rw [toldB_succ]; exact hown2, HJ.out _ _ _ HJ1.out hb2, (HOT.out.trans ho01).then_below hb2⟩
      case measure => simp [intOf]; omega
    · obtain rfl : k = n := by omega
      have HO : Hid (wr.ownsRow w.heap.size 4 1 (.slice (some ⟨w.heap.size, 0, none⟩) k k) k (toldB r k)) := hown
      have HOT : Hid (Oth S w wr) := hoth
      clear hown hoth
      go_wp2
      go_ret
      exact ⟨_, rfl, Nat.le_refl _, rowB_of_owns HO.out, HJK.out, HOT.out⟩
end Go.Proofs.YtpgdocmpbeabpaaDoor
namespace Go.Proofs.YtpgdocmpbeabpaaDoor
open Go.RowKit Go.Extern.Stop Go.Stop Go.Extern

theorem entersCf (args : Array Value) (W : World) : (callFunc 24 args).run Tryd.prog W = .ok (.enter 24 args) W := enters_of Tryd.func24 (by kernel_rfl) rfl args W

theorem conf1_any {n t R lev lat : Int} (x : It) {s c : Nat} (w : World) (hc : w.cell? ⟨c, 0, none⟩ = some (.pointer (some ⟨s, 0, none⟩))) (h : StAt w s n t R lev lat) (hb : okB n t R) (hl0 : 0 ≤ lev) (hl1 : lev ≤ R * t) (ht0 : 0 ≤ lat) (ht1 : x.a ≤ 1000000000) (hx0 : 0 ≤ x.l) (hx1 : x.l ≤ 1000000) :
    Calls Tryd.prog 24 #[.agg #[.int .i64 x.a, .int .i64 x.l, .int .i64 x.f, .int .i64 x.b, .int .i64 x.m], .pointer (some ⟨c, 0, none⟩)] w fun e w' => e = .returned (.bool (drwB t (pas n t R lev lat x.a) x.l)) ∧ StAt w' s n t R (drw t (pas n t R lev lat x.a) x.l) (lat1 lat x.a) ∧ Oth (· = s) w w' := by
  have H : Hid (StAt w s n t R lev lat) := h
  have HB : Hid (okB n t R) := hb
  have HL0 : Hid (0 ≤ lev) := hl0
  have HL1 : Hid (lev ≤ R * t) := hl1
  have HT0 : Hid (0 ≤ lat) := ht0
  have HT1 : Hid (x.a ≤ 1000000000) := ht1
  have HX0 : Hid (0 ≤ x.l) := hx0
  have HX1 : Hid (x.l ≤ 1000000) := hx1
  clear h hb hl0 hl1 ht0 ht1 hx0 hx1
  have hlt := lt_of_cell hc
  have hc1 : (w.alloc (.cells #[.int .i64 x.a, .int .i64 x.l, .int .i64 x.f, .int .i64 x.b, .int .i64 x.m] 37)).cell? ⟨c, 0, none⟩ = some (.pointer (some ⟨s, 0, none⟩)) := by
    rw [World.cell?_alloc_lt _ _ ⟨c, 0, none⟩ hlt]; exact hc
  clear hlt
  go_enter Tryd.func24, Tryd.ntmps24
  go_wp2_with (go_at_call 25; refine (take_yes _ _ _ (H.out.alloc _) HB.out HL0.out HL1.out HT0.out HT1.out HX0.out HX1.out).mono ?_; rintro e w1 ⟨rfl, hs1, ho1⟩)
  go_ret
  exact ⟨rfl, hs1, ((Oth.refl _ _).alloc _).trans ho1⟩

theorem conform_nob (n t R : Int) (l : Value) (w : World) (h : ¬ okB n t R) :
    Calls Tryd.prog 11 #[.agg #[.int .i64 n, .int .i64 t, .int .i64 R], l] w fun e w' => e = .returned (.tuple #[.slice none 0 0, .iface 65 (.int .i64 2)]) ∧ Below w.heap.size w w' := by
  have H : Hid (¬ okB n t R) := h
  clear h
  go_enter Tryd.func11, Tryd.ntmps11
  go_wp2_with (go_at_call 22; refine (open_nob _ _ _ _ _ H.out).mono ?_; rintro e w1 ⟨rfl, hb1⟩)
  go_ret2
  have hB : Below w.heap.size w w1 := ((Below.refl _ _).alloc (Nat.le_refl _) _).trans (hb1.mono (by simp))
  exact ⟨rfl, hB.alloc hB.size _⟩
theorem conform_nol (n t R : Int) (x : Option Addr) (cap : Nat) (xs : List It) (w : World) (h : okB n t R) (hl : ¬ okL xs) (hL : Laid w) (hI : ItemsAt w x xs) (hm : xs.length ≤ maxLen) :
    Calls Tryd.prog 11 #[.agg #[.int .i64 n, .int .i64 t, .int .i64 R], .slice x xs.length cap] w fun e w' => ∃ t' u', e = .returned (.tuple #[.slice none 0 0, .iface t' u']) ∧ ErrIs w' (.iface t' u') (listE xs).1 (listE xs).2 ∧ Below w.heap.size w w' := by
  have H : Hid (okB n t R) := h
  have HM : Hid (xs.length ≤ maxLen) := hm
  have HN : Hid (¬ okL xs) := hl
  have hL1 : Laid (w.alloc (.cells #[.int .i64 n, .int .i64 t, .int .i64 R] 46)) := hL.alloc _
  have hI1 : ItemsAt (w.alloc (.cells #[.int .i64 n, .int .i64 t, .int .i64 R] 46)) x xs := hI.below ((Below.refl _ _).alloc (Nat.le_refl _) _)
  clear h hm hl
  go_enter Tryd.func11, Tryd.ntmps11
  go_wp2_with (go_at_call 22; refine (open_nol _ _ _ _ _ _ _ H.out HN.out hL1 hI1 HM.out).mono ?_; rintro e w1 ⟨v, rfl, he, hb1⟩; obtain ⟨t', u', rfl⟩ := he.iface HN.out)
  go_ret2
  have hB : Below w.heap.size w w1 := ((Below.refl _ _).alloc (Nat.le_refl _) _).trans (hb1.mono (by simp))
  exact ⟨_, _, rfl, he.below ((Below.refl _ _).alloc (Nat.le_refl _) _), hB.alloc hB.size _⟩

theorem eachCf_any (n t R : Int) (x0 : Option Addr) (cap : Nat) (xs : List It) {s c : Nat} (w : World) (hc : w.cell? ⟨c, 0, none⟩ = some (.pointer (some ⟨s, 0, none⟩))) (hst : StAt w s n t R (R * t) 0) (h : okB n t R) (hF : Fine xs) (h100 : xs.length ≤ 100) (hI : ItemsAt w x0 xs) (hsx : ∀ b off, x0 = some ⟨b, off, none⟩ → xs ≠ [] → b ≠ s) :
    Calls Tryd.prog 23 #[.slice x0 xs.length cap, .func (.func 24) #[] #[.pointer (some ⟨c, 0, none⟩)]] w fun e w' => ∃ g, e = .returned (.slice (some ⟨g, 0, none⟩) xs.length xs.length) ∧ w.heap.size ≤ g ∧ RowB w' g xs.length (bok n t R xs) ∧ Oth (· = s) w w' := by
  have hcl := lt_of_cell hc
  have hsl := hst.lt
  have hne : ¬ c = s := by
    rintro rfl
    have := hst.cells.1
    rw [hc] at this
    simp at this
  refine (eachB_any 24 #[.pointer (some ⟨c, 0, none⟩)] x0 cap xs (bok n t R xs) (fun k W => W.cell? ⟨c, 0, none⟩ = some (.pointer (some ⟨s, 0, none⟩)) ∧ StAt W s n t R (bst n t R xs k).1 (bst n t R xs k).2) (· = s) w hI (fun k e => by subst e; exact hsl) hsx h100 entersCf ⟨hc, hst⟩ ?_ ?_).mono ?_
  · rintro k W W' ⟨h1, h2⟩ hb
    exact ⟨(hb.cell (p := ⟨c, 0, none⟩) hcl).trans h1, h2.same (hb.block s hsl)⟩
  · rintro k x W hx ⟨h1, h2⟩
    have hk : k < xs.length := (List.getElem?_eq_some_iff.1 hx).1
    have hl := bst_lev (n := n) (t := t) (R := R) hF h.1.1 h.2.1.1 h.2.2.1 k (by omega)
    have ht := (bst_lat (n := n) (t := t) (R := R) hF k (by omega)).1
    have hx' := (hF k x hx).1
    refine (conf1_any x W h1 h2 h hl.1 hl.2 ht.1 (by omega) (by omega) (by omega)).mono ?_
    rintro e W' ⟨rfl, h3, h4⟩
    refine ⟨by rw [bok_at hx]; rfl, ⟨(h4.cell (p := ⟨c, 0, none⟩) (lt_of_cell h1) hne).trans h1, ?_⟩, h4⟩
    rw [bst_succ hx]; exact h3
  · rintro e w' ⟨g, rfl, h1, h2, _, h4⟩
    exact ⟨g, rfl, h1, h2, h4⟩
theorem conform_yes (n t R : Int) (x : Option Addr) (cap : Nat) (xs : List It) (w : World) (h : okB n t R) (hl : okL xs) (hL : Laid w) (hI : ItemsAt w x xs) :
    Calls Tryd.prog 11 #[.agg #[.int .i64 n, .int .i64 t, .int .i64 R], .slice x xs.length cap] w fun e w' => ∃ g, e = .returned (.tuple #[.slice (some ⟨g, 0, none⟩) xs.length xs.length, .nilIface]) ∧ w.heap.size ≤ g ∧ RowB w' g xs.length (bok n t R xs) ∧ Below w.heap.size w w' := by
  obtain ⟨hF, h100⟩ := hl.fine
  have hm : xs.length ≤ maxLen := by unfold maxLen; omega
  have H : Hid (okB n t R) := h
  have HM : Hid (xs.length ≤ maxLen) := hm
  have HN : Hid (okL xs) := hl
  have HF : Hid (Fine xs) := hF
  have HI : Hid (ItemsAt w x xs) := hI
  have hL1 : Laid (w.alloc (.cells #[.int .i64 n, .int .i64 t, .int .i64 R] 46)) := hL.alloc _
  have hI1 : ItemsAt (w.alloc (.cells #[.int .i64 n, .int .i64 t, .int .i64 R] 46)) x xs := hI.below ((Below.refl _ _).alloc (Nat.le_refl _) _)
  have hmf : ∀ (fn : Fn) (first cap : Array Value) (w : World), (Instr.makeFunc fn first cap).run Tryd.prog w = .ok (.func fn first cap) w := fun _ _ _ _ => rfl
  clear h hm hl hF hI
  go_enter Tryd.func11, Tryd.ntmps11
  go_wp2_with (go_at_call 22; refine (open_yes _ _ _ _ _ _ _ H.out HN.out hL1 hI1 HM.out).mono ?_; rintro e w1 ⟨s, rfl, hs, hst, hb1⟩; have HST : Hid (StAt w1 s n t R (R * t) 0) := hst; clear hst)
  have hB : Below w.heap.size w w1 := ((Below.refl _ _).alloc (Nat.le_refl _) _).trans (hb1.mono (by simp))
  have hsw : w.heap.size ≤ s := by simp at hs; omega
  refine (eachCf_any n t R x cap xs (s := s) (c := w1.heap.size) _ (by simp) (HST.out.alloc _) H.out HF.out h100 (HI.out.below (hB.alloc hB.size _)) ?_).mono ?_
  · rintro b off rfl hne e
    have := HI.out.lt hne
    omega
  rintro e w2 ⟨g, rfl, hg, hrow, ho⟩
  go_wp2
  go_ret2
  exact ⟨g, rfl, by simp at hg; have := hB.size; omega, hrow, (hB.alloc hB.size _).trans (ho.below (by simp; have := hB.size; omega) (fun k e => by subst e; exact hsw))⟩
end Go.Proofs.YtpgdocmpbeabpaaDoor
