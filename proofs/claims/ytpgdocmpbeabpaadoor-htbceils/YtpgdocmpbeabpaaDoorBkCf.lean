/-
  bucket.Conform: of a bucket that may not be, or of packets that may not be, the error; else, in new memory, which packets conform; nothing that was there before is otherwise. Conditions: errors.errorType holds its handle; the packets lie in memory.
-/
import Derived.Test.YtpgdocmpbeabpaaDoorU42
namespace Go.Proofs.YtpgdocmpbeabpaaDoor
open Go.RowKit Go.Extern.Stop Go.Stop Go.Extern

theorem entersCf (args : Array Value) (W : World) : (callFunc 24 args).run Tryd.prog W = .ok (.enter 24 args) W := enters_of Tryd.func24 (by kernel_rfl) rfl args W

theorem conf1_any {n t R lev lat : Int} (x : It) {s c : Nat} (w : World) (hc : w.cell? ⟨c, 0, none⟩ = some (.pointer (some ⟨s, 0, none⟩))) (h : StAt w s n t R lev lat) (hb : okB n t R) (hl0 : 0 ≤ lev) (hl1 : lev ≤ R * t) (ht0 : 0 ≤ lat) (ht1 : x.a ≤ 1000000000) (hx0 : 0 ≤ x.l) (hx1 : x.l ≤ 1000000) :
    Calls Tryd.prog 24 #[.agg #[.int .i64 x.a, .int .i64 x.l, .int .i64 x.f, .int .i64 x.b, .int .i64 x.m], .pointer (some ⟨c, 0, none⟩)] w fun e w' => e = .returned (.bool (drwB t (pas n t R lev lat x.a) x.l)) ∧ StAt w' s n t R (drw t (pas n t R lev lat x.a) x.l) (lat1 lat x.a) ∧ Oth (· = s) w w' := by
  have H : Hid (StAt w s n t R lev lat) := h
  have HB : Hid (okB n t R) := hb
  have HL0 : Hid (0 ≤ lev) := hl0
  have HL1 : Hid (lev ≤ R * t) := hl1
  have HT0 : Hid (0 ≤ lat) := ht0
  have HT1 : Hid (x.a ≤ 1000000000) := ht1
  have HX0 : Hid (0 ≤ x.l) := hx0
  have HX1 : Hid (x.l ≤ 1000000) := hx1
  clear h hb hl0 hl1 ht0 ht1 hx0 hx1
  have hlt := lt_of_cell hc
  have hc1 : (w.alloc (.cells #[.int .i64 x.a, .int .i64 x.l, .int .i64 x.f, .int .i64 x.b, .int .i64 x.m] 37)).cell? ⟨c, 0, none⟩ = some (.pointer (some ⟨s, 0, none⟩)) := by
    rw [World.cell?_alloc_lt _ _ ⟨c, 0, none⟩ hlt]; exact hc
  clear hlt
  go_enter Tryd.func24, Tryd.ntmps24
  go_wp2_with (go_at_call 25; refine (take_yes _ _ _ (H.out.alloc _) HB.out HL0.out HL1.out HT0.out HT1.out HX0.out HX1.out).mono ?_; rintro e w1 ⟨rfl, hs1, ho1⟩)
  go_ret
  exact ⟨rfl, hs1, ((Oth.refl _ _).alloc _).trans ho1⟩

theorem conform_nob (n t R : Int) (l : Value) (w : World) (h : ¬ okB n t R) :
    Calls Tryd.prog 11 #[.agg #[.int .i64 n, .int .i64 t, .int .i64 R], l] w fun e w' => e = .returned (.tuple #[.slice none 0 0, .iface 65 (.int .i64 2)]) ∧ Below w.heap.size w w' := by
  have H : Hid (¬ okB n t R) := h
  clear h
  go_enter Tryd.func11, Tryd.ntmps11
  go_wp2_with (go_at_call 22; refine (open_nob _ _ _ _ _ H.out).mono ?_; rintro e w1 ⟨rfl, hb1⟩)
  go_ret2
  have hB : Below w.heap.size w w1 := ((Below.refl _ _).alloc (Nat.le_refl _) _).trans (hb1.mono (by simp))
  exact ⟨rfl, hB.alloc hB.size _⟩
theorem conform_nol (n t R : Int) (x : Option Addr) (cap : Nat) (xs : List It) (w : World) (h : okB n t R) (hl : ¬ okL xs) (hL : Laid w) (hI : ItemsAt w x xs) (hm : xs.length ≤ maxLen) :
    Calls Tryd.prog 11 #[.agg #[.int .i64 n, .int .i64 t, .int .i64 R], .slice x xs.length cap] w fun e w' => ∃ t' u', e = .returned (.tuple #[.slice none 0 0, .iface t' u']) ∧ ErrIs w' (.iface t' u') (listE xs).1 (listE xs).2 ∧ Below w.heap.size w w' := by
  have H : Hid (okB n t R) := h
  have HM : Hid (xs.length ≤ maxLen) := hm
  have HN : Hid (¬ okL xs) := hl
  have hL1 : Laid (w.alloc (.cells #[.int .i64 n, .int .i64 t, .int .i64 R] 46)) := hL.alloc _
  have hI1 : ItemsAt (w.alloc (.cells #[.int .i64 n, .int .i64 t, .int .i64 R] 46)) x xs := hI.below ((Below.refl _ _).alloc (Nat.le_refl _) _)
  clear h hm hl
  go_enter Tryd.func11, Tryd.ntmps11
  go_wp2_with (go_at_call 22; refine (open_nol _ _ _ _ _ _ _ H.out HN.out hL1 hI1 HM.out).mono ?_; rintro e w1 ⟨v, rfl, he, hb1⟩; obtain ⟨t', u', rfl⟩ := he.iface HN.out)
  go_ret2
  have hB : Below w.heap.size w w1 := ((Below.refl _ _).alloc (Nat.le_refl _) _).trans (hb1.mono (by simp))
  exact ⟨_, _, rfl, he.below ((Below.refl _ _).alloc (Nat.le_refl _) _), hB.alloc hB.size _⟩

theorem eachCf_any (n t R : Int) (x0 : Option Addr) (cap : Nat) (xs : List It) {s c : Nat} (w : World) (hc : w.cell? ⟨c, 0, none⟩ = some (.pointer (some ⟨s, 0, none⟩))) (hst : StAt w s n t R (R * t) 0) (h : okB n t R) (hF : Fine xs) (h100 : xs.length ≤ 100) (hI : ItemsAt w x0 xs) (hsx : ∀ b off, x0 = some ⟨b, off, none⟩ → xs ≠ [] → b ≠ s) :
    Calls Tryd.prog 23 #[.slice x0 xs.length cap, .func (.func 24) #[] #[.pointer (some ⟨c, 0, none⟩)]] w fun e w' => ∃ g, e = .returned (.slice (some ⟨g, 0, none⟩) xs.length xs.length) ∧ w.heap.size ≤ g ∧ RowB w' g xs.length (bok n t R xs) ∧ Oth (· = s) w w' := by
  have hcl := lt_of_cell hc
  have hsl := hst.lt
  have hne : ¬ c = s := by
    rintro rfl
    have := hst.cells.1
    rw [hc] at this
    simp at this
  refine (eachB_any 24 #[.pointer (some ⟨c, 0, none⟩)] x0 cap xs (bok n t R xs) (fun k W => W.cell? ⟨c, 0, none⟩ = some (.pointer (some ⟨s, 0, none⟩)) ∧ StAt W s n t R (bst n t R xs k).1 (bst n t R xs k).2) (· = s) w hI (fun k e => by subst e; exact hsl) hsx h100 entersCf ⟨hc, hst⟩ ?_ ?_).mono ?_
  · rintro k W W' ⟨h1, h2⟩ hb
    exact ⟨(hb.cell (p := ⟨c, 0, none⟩) hcl).trans h1, h2.same (hb.block s hsl)⟩
  · rintro k x W hx ⟨h1, h2⟩
    have hk : k < xs.length := (List.getElem?_eq_some_iff.1 hx).1
    have hl := bst_lev (n := n) (t := t) (R := R) hF h.1.1 h.2.1.1 h.2.2.1 k (by omega)
    have ht := (bst_lat (n := n) (t := t) (R := R) hF k (by omega)).1
    have hx' := (hF k x hx).1
    refine (conf1_any x W h1 h2 h hl.1 hl.2 ht.1 (by omega) (by omega) (by omega)).mono ?_
    rintro e W' ⟨rfl, h3, h4⟩
    refine ⟨by rw [bok_at hx]; rfl, ⟨(h4.cell (p := ⟨c, 0, none⟩) (lt_of_cell h1) hne).trans h1, ?_⟩, h4⟩
    rw [bst_succ hx]; exact h3
  · rintro e w' ⟨g, rfl, h1, h2, _, h4⟩
    exact ⟨g, rfl, h1, h2, h4⟩
theorem conform_yes (n t R : Int) (x : Option Addr) (cap : Nat) (xs : List It) (w : World) (h : okB n t R) (hl : okL xs) (hL : Laid w) (hI : ItemsAt w x xs) :
    Calls Tryd.prog 11 #[.agg #[.int .i64 n, .int .i64 t, .int .i64 R], .slice x xs.length cap] w fun e w' => ∃ g, e = .returned (.tuple #[.slice (some ⟨g, 0, none⟩) xs.length xs.length, .nilIface]) ∧ w.heap.size ≤ g ∧ RowB w' g xs.length (bok n t R xs) ∧ Below w.heap.size w w' := by
  obtain ⟨hF, h100⟩ := hl.fine
  have hm : xs.length ≤ maxLen := by unfold maxLen; omega
  have H : Hid (okB n t R) := h
  have HM : Hid (xs.length ≤ maxLen) := hm
  have HN : Hid (okL xs) := hl
  have HF : Hid (Fine xs) := hF
  have HI : Hid (ItemsAt w x xs) := hI
  have hL1 : Laid (w.alloc (.cells #[.int .i64 n, .int .i64 t, .int .i64 R] 46)) := hL.alloc _
  have hI1 : ItemsAt (w.alloc (.cells #[.int .i64 n, .int .i64 t, .int .i64 R] 46)) x xs := hI.below ((Below.refl _ _).alloc (Nat.le_refl _) _)
  have hmf : ∀ (fn : Fn) (first cap : Array Value) (w : World), (Instr.makeFunc fn first cap).run Tryd.prog w = .ok (.func fn first cap) w := fun _ _ _ _ => rfl
  clear h hm hl hF hI
  go_enter Tryd.func11, Tryd.ntmps11
  go_wp2_with (go_at_call 22; refine (open_yes _ _ _ _ _ _ _ H.out HN.out hL1 hI1 HM.out).mono ?_; rintro e w1 ⟨s, rfl, hs, hst, hb1⟩; have HST : Hid (StAt w1 s n t R (R * t) 0) := hst; clear hst)
  have hB : Below w.heap.size w w1 := ((Below.refl _ _).alloc (Nat.le_refl _) _).trans (hb1.mono (by simp))
  have hsw : w.heap.size ≤ s := by simp at hs; omega
  refine (eachCf_any n t R x cap xs (s := s) (c := w1.heap.size) _ (by simp) (HST.out.alloc _) H.out HF.out h100 (HI.out.below (hB.alloc hB.size _)) ?_).mono ?_
  · rintro b off rfl hne e
    have := HI.out.lt hne
    omega
  rintro e w2 ⟨g, rfl, hg, hrow, ho⟩
  go_wp2
  go_ret2
  exact ⟨g, rfl, by simp at hg; have := hB.size; omega, hrow, (hB.alloc hB.size _).trans (ho.below (by simp; have := hB.size; omega) (fun k e => by subst e; exact hsw))⟩
end Go.Proofs.YtpgdocmpbeabpaaDoor
