/-
  bucket.Two: the errors; else, in new memory, the colors by two buckets; nothing that was there before is otherwise. Conditions: errors.errorType holds its handle; the packets lie in memory.
-/
import Derived.Test.YtdaapdpbnijefaaGreatDoorGf
namespace Go.Proofs.YtdaapdpbnijefaaGreatDoor
open Go.RowKit Go.Extern.Stop Go.Stop Go.Extern

theorem entersTwo (args : Array Value) (W : World) : (callFunc 48 args).run Tryz.prog W = .ok (.enter 48 args) W := enters_of Tryz.func48 (by kernel_rfl) rfl args W
/-- The color: p what is in the first one, q in the second one (the peak's). -/
def colT (t t2 p q l : Int) : Int := if drwB t2 q l then (if drwB t p l then 1 else 2) else 3

set_option maxHeartbeats 1000000 in
theorem two1_any {n t R n2 t2 R2 lev lat lev2 lat2 : Int} (x : It) {s s2 c c2 : Nat} (w : World) (hc : w.cell? ⟨c, 0, none⟩ = some (.pointer (some ⟨s, 0, none⟩))) (hc2 : w.cell? ⟨c2, 0, none⟩ = some (.pointer (some ⟨s2, 0, none⟩))) (h : StAt w s n t R lev lat) (h2 : StAt w s2 n2 t2 R2 lev2 lat2) (hne : ¬ s = s2) (hb : okB n t R) (hb2 : okB n2 t2 R2) (hl0 : 0 ≤ lev) (hl1 : lev ≤ R * t) (hm0 : 0 ≤ lev2) (hm1 : lev2 ≤ R2 * t2) (ht0 : 0 ≤ lat) (ht2 : 0 ≤ lat2) (ht1 : x.a ≤ 1000000000) (hx0 : 0 ≤ x.l) (hx1 : x.l ≤ 1000000) :
    Calls Tryz.prog 48 #[.agg #[.int .i64 x.a, .int .i64 x.l, .int .i64 x.f, .int .i64 x.b, .int .i64 x.m], .pointer (some ⟨c2, 0, none⟩), .pointer (some ⟨c, 0, none⟩)] w fun e w' => e = .returned (.int .i64 (colT t t2 (pas n t R lev lat x.a) (pas n2 t2 R2 lev2 lat2 x.a) x.l)) ∧ StAt w' s2 n2 t2 R2 (drw t2 (pas n2 t2 R2 lev2 lat2 x.a) x.l) (lat1 lat2 x.a) ∧ (drwB t2 (pas n2 t2 R2 lev2 lat2 x.a) x.l = true → StAt w' s n t R (drw t (pas n t R lev lat x.a) x.l) (lat1 lat x.a)) ∧ (drwB t2 (pas n2 t2 R2 lev2 lat2 x.a) x.l = false → StAt w' s n t R lev lat) ∧ Oth (fun k => k = s ∨ k = s2) w w' := by
  have hcs2 : ¬ c = s2 := by
    rintro rfl
    have := h2.cells.1
    rw [hc] at this; simp at this
  have hcl := lt_of_cell hc
  have hcl2 := lt_of_cell hc2
  have hsl := h.lt
  have hsl2 := h2.lt
  obtain ⟨W0, hW0⟩ : ∃ W0, W0 = w.alloc (.cells #[.int .i64 x.a, .int .i64 x.l, .int .i64 x.f, .int .i64 x.b, .int .i64 x.m] 61) := ⟨_, rfl⟩
  have k1 : W0.cell? ⟨c, 0, none⟩ = some (.pointer (some ⟨s, 0, none⟩)) := by rw [hW0, World.cell?_alloc_lt _ _ ⟨c, 0, none⟩ hcl]; exact hc
  have k2 : W0.cell? ⟨c2, 0, none⟩ = some (.pointer (some ⟨s2, 0, none⟩)) := by rw [hW0, World.cell?_alloc_lt _ _ ⟨c2, 0, none⟩ hcl2]; exact hc2
  have k2' := k2
  rw [hW0] at k2'
  have k3 : W0.cell? ⟨w.heap.size, 0, none⟩ = some (.int .i64 x.a) := by rw [hW0]; simp
  have k4 : W0.cell? ⟨w.heap.size, 1, none⟩ = some (.int .i64 x.l) := by rw [hW0]; simp
  have HK : Hid (W0.cell? ⟨c, 0, none⟩ = some (.pointer (some ⟨s, 0, none⟩)) ∧ W0.cell? ⟨w.heap.size, 0, none⟩ = some (.int .i64 x.a) ∧ W0.cell? ⟨w.heap.size, 1, none⟩ = some (.int .i64 x.l)) := ⟨k1, k3, k4⟩
  have HS : Hid (StAt W0 s n t R lev lat) := by rw [hW0]; exact h.alloc _
  have HS2 : Hid (StAt W0 s2 n2 t2 R2 lev2 lat2) := by rw [hW0]; exact h2.alloc _
  have HO : Hid (Oth (fun k => k = s ∨ k = s2) w W0) := by rw [hW0]; exact (Oth.refl _ _).alloc _
  have HW : Hid (W0 = w.alloc (.cells #[.int .i64 x.a, .int .i64 x.l, .int .i64 x.f, .int .i64 x.b, .int .i64 x.m] 61)) := hW0
  have hws2 : ¬ w.heap.size = s2 := by omega
  have HN : Hid (¬ s = s2 ∧ ¬ w.heap.size = s2 ∧ ¬ c = s2) := ⟨hne, hws2, hcs2⟩
  have HB : Hid (okB n t R) := hb
  have HB2 : Hid (okB n2 t2 R2) := hb2
  have HF : Hid ((0 ≤ lev ∧ lev ≤ R * t) ∧ (0 ≤ lev2 ∧ lev2 ≤ R2 * t2) ∧ 0 ≤ lat ∧ 0 ≤ lat2 ∧ x.a ≤ 1000000000 ∧ 0 ≤ x.l ∧ x.l ≤ 1000000) := ⟨⟨hl0, hl1⟩, ⟨hm0, hm1⟩, ht0, ht2, ht1, hx0, hx1⟩
  have hk : ∀ {a b : World} {S : Nat → Prop} {p : Nat} {o : Nat} {v : Value}, Oth S a b → a.cell? ⟨p, o, none⟩ = some v → ¬ S p → b.cell? ⟨p, o, none⟩ = some v := fun ho hc hs => (ho.cell (lt_of_cell hc) hs).trans hc
  clear hc hc2 h h2 hne hb hb2 hl0 hl1 hm0 hm1 ht0 ht1 ht2 hx0 hx1 hW0 k1 k2 k3 k4 hcl hcl2 hsl hsl2
  cases hA : drwB t2 (pas n2 t2 R2 lev2 lat2 x.a) x.l with
  | false =>
    have HA : Hid (drwB t2 (pas n2 t2 R2 lev2 lat2 x.a) x.l = false) := hA
    go_enter Tryz.func48, Tryz.ntmps48
    go_wp2_with fail
    rw [← HW.out]
    refine (take_yes _ _ _ (by exact HS2.out) HB2.out HF.out.2.1.1 HF.out.2.1.2 HF.out.2.2.2.1 HF.out.2.2.2.2.1 HF.out.2.2.2.2.2.1 HF.out.2.2.2.2.2.2).mono ?_
    rintro e w1 ⟨rfl, hs1, ho1⟩
    have HS1 : Hid (StAt w1 s2 n2 t2 R2 (drw t2 (pas n2 t2 R2 lev2 lat2 x.a) x.l) (lat1 lat2 x.a)) := hs1
    clear hs1
    go_wp2
    go_ret
    refine ⟨?_, HS1.out, (by intro e; cases e), fun _ => HS.out.kept ho1 (fun e => HN.out.1 e), HO.out.trans (ho1.mono (fun _ e => Or.inr e))⟩
    rw [colT, HA.out]; rfl
  | true =>
    have HA : Hid (drwB t2 (pas n2 t2 R2 lev2 lat2 x.a) x.l = true) := hA
    cases hC : drwB t (pas n t R lev lat x.a) x.l with
    | false =>
      have HC : Hid (drwB t (pas n t R lev lat x.a) x.l = false) := hC
      go_enter Tryz.func48, Tryz.ntmps48
      go_wp2_with fail
      rw [← HW.out]
      refine (take_yes _ _ _ (by exact HS2.out) HB2.out HF.out.2.1.1 HF.out.2.1.2 HF.out.2.2.2.1 HF.out.2.2.2.2.1 HF.out.2.2.2.2.2.1 HF.out.2.2.2.2.2.2).mono ?_
      rintro e w1 ⟨rfl, hs1, ho1⟩
      have HS1 : Hid (StAt w1 s2 n2 t2 R2 (drw t2 (pas n2 t2 R2 lev2 lat2 x.a) x.l) (lat1 lat2 x.a)) := hs1
      have q1 := hk ho1 HK.out.1 HN.out.2.2
      have q3 := hk ho1 HK.out.2.1 HN.out.2.1
      have q4 := hk ho1 HK.out.2.2 HN.out.2.1
      have HS0 : Hid (StAt w1 s n t R lev lat) := HS.out.kept ho1 (fun e => HN.out.1 e)
      clear hs1
      go_wp2_with fail
      refine (take_yes _ _ _ (by exact HS0.out) HB.out HF.out.1.1 HF.out.1.2 HF.out.2.2.1 HF.out.2.2.2.2.1 HF.out.2.2.2.2.2.1 HF.out.2.2.2.2.2.2).mono ?_
      rintro e w2 ⟨rfl, hs2, ho2⟩
      have HSS : Hid (StAt w2 s n t R (drw t (pas n t R lev lat x.a) x.l) (lat1 lat x.a)) := hs2
      clear hs2
      go_wp2
      go_ret
      refine ⟨?_, HS1.out.kept ho2 (fun e => HN.out.1 e.symm), fun _ => HSS.out, (by intro e; cases e), (HO.out.trans (ho1.mono (fun _ e => Or.inr e))).trans (ho2.mono (fun _ e => Or.inl e))⟩
      rw [colT, HA.out, HC.out]; rfl
    | true =>
      have HC : Hid (drwB t (pas n t R lev lat x.a) x.l = true) := hC
      go_enter Tryz.func48, Tryz.ntmps48
      go_wp2_with fail
      rw [← HW.out]
      refine (take_yes _ _ _ (by exact HS2.out) HB2.out HF.out.2.1.1 HF.out.2.1.2 HF.out.2.2.2.1 HF.out.2.2.2.2.1 HF.out.2.2.2.2.2.1 HF.out.2.2.2.2.2.2).mono ?_
      rintro e w1 ⟨rfl, hs1, ho1⟩
      have HS1 : Hid (StAt w1 s2 n2 t2 R2 (drw t2 (pas n2 t2 R2 lev2 lat2 x.a) x.l) (lat1 lat2 x.a)) := hs1
      have q1 := hk ho1 HK.out.1 HN.out.2.2
      have q3 := hk ho1 HK.out.2.1 HN.out.2.1
      have q4 := hk ho1 HK.out.2.2 HN.out.2.1
      have HS0 : Hid (StAt w1 s n t R lev lat) := HS.out.kept ho1 (fun e => HN.out.1 e)
      clear hs1
      go_wp2_with fail
      refine (take_yes _ _ _ (by exact HS0.out) HB.out HF.out.1.1 HF.out.1.2 HF.out.2.2.1 HF.out.2.2.2.2.1 HF.out.2.2.2.2.2.1 HF.out.2.2.2.2.2.2).mono ?_
      rintro e w2 ⟨rfl, hs2, ho2⟩
      have HSS : Hid (StAt w2 s n t R (drw t (pas n t R lev lat x.a) x.l) (lat1 lat x.a)) := hs2
      clear hs2
      go_wp2
      go_ret
      refine ⟨?_, HS1.out.kept ho2 (fun e => HN.out.1 e.symm), fun _ => HSS.out, (by intro e; cases e), (HO.out.trans (ho1.mono (fun _ e => Or.inr e))).trans (ho2.mono (fun _ e => Or.inl e))⟩
      rw [colT, HA.out, HC.out]; rfl

theorem eachTwo_any (n t R n2 t2 R2 : Int) (x0 : Option Addr) (cap : Nat) (xs : List It) {s s2 c c2 : Nat} (w : World) (hc : w.cell? ⟨c, 0, none⟩ = some (.pointer (some ⟨s, 0, none⟩))) (hc2 : w.cell? ⟨c2, 0, none⟩ = some (.pointer (some ⟨s2, 0, none⟩))) (hst : StAt w s n t R (R * t) 0) (hst2 : StAt w s2 n2 t2 R2 (R2 * t2) 0) (hne : ¬ s = s2) (h : okB n t R) (h2 : okB n2 t2 R2) (hF : Fine xs) (h100 : xs.length ≤ 100) (hI : ItemsAt w x0 xs) (hsx : ∀ b off, x0 = some ⟨b, off, none⟩ → xs ≠ [] → ¬ (b = s ∨ b = s2)) :
    Calls Tryz.prog 43 #[.slice x0 xs.length cap, .func (.func 48) #[] #[.pointer (some ⟨c2, 0, none⟩), .pointer (some ⟨c, 0, none⟩)]] w fun e w' => ∃ g, e = .returned (.slice (some ⟨g, 0, none⟩) xs.length xs.length) ∧ w.heap.size ≤ g ∧ RowI w' g xs.length (twc n t R n2 t2 R2 xs) ∧ Oth (fun k => k = s ∨ k = s2) w w' := by
  have hcl := lt_of_cell hc
  have hcl2 := lt_of_cell hc2
  have hsl := hst.lt
  have hsl2 := hst2.lt
  have hcs : ¬ c = s := by
    rintro rfl
    have := hst.cells.1
    rw [hc] at this; simp at this
  have hcs2 : ¬ c = s2 := by
    rintro rfl
    have := hst2.cells.1
    rw [hc] at this; simp at this
  have hc2s : ¬ c2 = s := by
    rintro rfl
    have := hst.cells.1
    rw [hc2] at this; simp at this
  have hc2s2 : ¬ c2 = s2 := by
    rintro rfl
    have := hst2.cells.1
    rw [hc2] at this; simp at this
  refine (eachI_any 48 #[.pointer (some ⟨c2, 0, none⟩), .pointer (some ⟨c, 0, none⟩)] x0 cap xs (twc n t R n2 t2 R2 xs) (fun k W => W.cell? ⟨c, 0, none⟩ = some (.pointer (some ⟨s, 0, none⟩)) ∧ W.cell? ⟨c2, 0, none⟩ = some (.pointer (some ⟨s2, 0, none⟩)) ∧ StAt W s n t R (tst n t R n2 t2 R2 xs k).1 (tst n t R n2 t2 R2 xs k).2 ∧ StAt W s2 n2 t2 R2 (bst n2 t2 R2 xs k).1 (bst n2 t2 R2 xs k).2) (fun k => k = s ∨ k = s2) w hI (fun k e => by rcases e with rfl | rfl <;> assumption) hsx h100 entersTwo ⟨hc, hc2, hst, hst2⟩ ?_ ?_).mono ?_
  · rintro k W W' ⟨h1, h2, h3, h4⟩ hb
    exact ⟨(hb.cell (p := ⟨c, 0, none⟩) hcl).trans h1, (hb.cell (p := ⟨c2, 0, none⟩) hcl2).trans h2, h3.same (hb.block s hsl), h4.same (hb.block s2 hsl2)⟩
  · rintro k x W hx ⟨h1, h1', h3, h4⟩
    have hk : k < xs.length := (List.getElem?_eq_some_iff.1 hx).1
    have hl := tst_lev (n := n) (t := t) (R := R) (n2 := n2) (t2 := t2) (R2 := R2) hF h.1.1 h.2.1.1 h.2.2.1 k (by omega)
    have ht := tst_lat (n := n) (t := t) (R := R) (n2 := n2) (t2 := t2) (R2 := R2) hF k (by omega)
    have hl2 := bst_lev (n := n2) (t := t2) (R := R2) hF h2.1.1 h2.2.1.1 h2.2.2.1 k (by omega)
    have ht2 := (bst_lat (n := n2) (t := t2) (R := R2) hF k (by omega)).1
    have hx' := (hF k x hx).1
    refine (two1_any x W h1 h1' h3 h4 hne h h2 hl.1 hl.2 hl2.1 hl2.2 ht.1 ht2.1 (by omega) (by omega) (by omega)).mono ?_
    rintro e W' ⟨rfl, h5, h6, h6', h7⟩
    have hbk : bok n2 t2 R2 xs k = drwB t2 (pas n2 t2 R2 (bst n2 t2 R2 xs k).1 (bst n2 t2 R2 xs k).2 x.a) x.l := by rw [bok_at hx]; rfl
    refine ⟨?_, ⟨(h7.cell (p := ⟨c, 0, none⟩) (lt_of_cell h1) (by simp only; omega)).trans h1, (h7.cell (p := ⟨c2, 0, none⟩) (lt_of_cell h1') (by simp only; omega)).trans h1', ?_, ?_⟩, h7⟩
    · rw [twc_at hx, hbk]
      simp only [colT, drwB, decide_eq_true_eq]
    · rw [tst_succ hx, hbk]
      split
      · rename_i hd; exact h6 hd
      · rename_i hd; exact h6' (by simpa using hd)
    · rw [bst_succ hx]; exact h5
  · rintro e w' ⟨g, rfl, h1, h2, _, h4⟩
    exact ⟨g, rfl, h1, h2, h4⟩
theorem two_nob (n t R n2 t2 R2 : Int) (l : Value) (w : World) (h : ¬ okB n t R) :
    Calls Tryz.prog 22 #[.agg #[.int .i64 n, .int .i64 t, .int .i64 R], .agg #[.int .i64 n2, .int .i64 t2, .int .i64 R2], l] w fun e w' => e = .returned (.tuple #[.slice none 0 0, .iface 28 (.int .i64 2)]) ∧ Below w.heap.size w w' := by
  have H : Hid (¬ okB n t R) := h
  clear h
  go_enter Tryz.func22, Tryz.ntmps22
  go_wp2_with (go_at_call 42; refine (both_nob _ _ _ _ _ _ _ _ H.out).mono ?_; rintro e w1 ⟨rfl, hb1⟩)
  go_ret2
  have hB : Below w.heap.size w w1 := (((Below.refl _ _).alloc (Nat.le_refl _) _).alloc (by simp) _).trans (hb1.mono (by simp; omega))
  exact ⟨rfl, (hB.alloc hB.size _).alloc (by simp; have := hB.size; omega) _⟩
theorem two_nob2 (n t R n2 t2 R2 : Int) (l : Value) (w : World) (h : okB n t R) (h2 : ¬ okB n2 t2 R2) :
    Calls Tryz.prog 22 #[.agg #[.int .i64 n, .int .i64 t, .int .i64 R], .agg #[.int .i64 n2, .int .i64 t2, .int .i64 R2], l] w fun e w' => e = .returned (.tuple #[.slice none 0 0, .iface 28 (.int .i64 2)]) ∧ Below w.heap.size w w' := by
  have H : Hid (okB n t R) := h
  have H2 : Hid (¬ okB n2 t2 R2) := h2
  clear h h2
  go_enter Tryz.func22, Tryz.ntmps22
  go_wp2_with (go_at_call 42; refine (both_nob2 _ _ _ _ _ _ _ _ H.out H2.out).mono ?_; rintro e w1 ⟨rfl, hb1⟩)
  go_ret2
  have hB : Below w.heap.size w w1 := (((Below.refl _ _).alloc (Nat.le_refl _) _).alloc (by simp) _).trans (hb1.mono (by simp; omega))
  exact ⟨rfl, (hB.alloc hB.size _).alloc (by simp; have := hB.size; omega) _⟩
theorem two_nol (n t R n2 t2 R2 : Int) (x : Option Addr) (cap : Nat) (xs : List It) (w : World) (h : okB n t R) (h2 : okB n2 t2 R2) (hl : ¬ okL xs) (hL : Laid w) (hI : ItemsAt w x xs) (hm : xs.length ≤ maxLen) :
    Calls Tryz.prog 22 #[.agg #[.int .i64 n, .int .i64 t, .int .i64 R], .agg #[.int .i64 n2, .int .i64 t2, .int .i64 R2], .slice x xs.length cap] w fun e w' => ∃ t' u', e = .returned (.tuple #[.slice none 0 0, .iface t' u']) ∧ ErrIs w' (.iface t' u') (listE xs).1 (listE xs).2 ∧ Below w.heap.size w w' := by
  have H : Hid (okB n t R) := h
  have H2 : Hid (okB n2 t2 R2) := h2
  have HM : Hid (xs.length ≤ maxLen) := hm
  have HN : Hid (¬ okL xs) := hl
  have hL1 : Laid ((w.alloc (.cells #[.int .i64 n, .int .i64 t, .int .i64 R] 25)).alloc (.cells #[.int .i64 n2, .int .i64 t2, .int .i64 R2] 25)) := (hL.alloc _).alloc _
  have hI1 : ItemsAt ((w.alloc (.cells #[.int .i64 n, .int .i64 t, .int .i64 R] 25)).alloc (.cells #[.int .i64 n2, .int .i64 t2, .int .i64 R2] 25)) x xs := hI.below (((Below.refl _ _).alloc (Nat.le_refl _) _).alloc (by simp) _)
  clear h hm hl h2
  go_enter Tryz.func22, Tryz.ntmps22
  go_wp2_with (go_at_call 42; refine (both_nol _ _ _ _ _ _ _ _ _ _ H.out H2.out HN.out hL1 hI1 HM.out).mono ?_; rintro e w1 ⟨t', u', rfl, he, hb1⟩; have HE : Hid (ErrIs w1 (.iface t' u') (listE xs).1 (listE xs).2) := he; clear he)
  go_ret2
  have hB : Below w.heap.size w w1 := (((Below.refl _ _).alloc (Nat.le_refl _) _).alloc (by simp) _).trans (hb1.mono (by simp; omega))
  exact ⟨_, _, rfl, HE.out.below (((Below.refl _ _).alloc (Nat.le_refl _) _).alloc (by simp) _), (hB.alloc hB.size _).alloc (by simp; have := hB.size; omega) _⟩
theorem two_yes (n t R n2 t2 R2 : Int) (x : Option Addr) (cap : Nat) (xs : List It) (w : World) (h : okB n t R) (h2 : okB n2 t2 R2) (hl : okL xs) (hL : Laid w) (hI : ItemsAt w x xs) :
    Calls Tryz.prog 22 #[.agg #[.int .i64 n, .int .i64 t, .int .i64 R], .agg #[.int .i64 n2, .int .i64 t2, .int .i64 R2], .slice x xs.length cap] w fun e w' => ∃ g, e = .returned (.tuple #[.slice (some ⟨g, 0, none⟩) xs.length xs.length, .nilIface]) ∧ w.heap.size ≤ g ∧ RowI w' g xs.length (twc n t R n2 t2 R2 xs) ∧ Below w.heap.size w w' := by
  obtain ⟨hF, h100⟩ := hl.fine
  have hm : xs.length ≤ maxLen := by unfold maxLen; omega
  have H : Hid (okB n t R) := h
  have H2 : Hid (okB n2 t2 R2) := h2
  have HM : Hid (xs.length ≤ maxLen) := hm
  have HN : Hid (okL xs) := hl
  have HF : Hid (Fine xs) := hF
  have HI : Hid (ItemsAt w x xs) := hI
  have hL1 : Laid ((w.alloc (.cells #[.int .i64 n, .int .i64 t, .int .i64 R] 25)).alloc (.cells #[.int .i64 n2, .int .i64 t2, .int .i64 R2] 25)) := (hL.alloc _).alloc _
  have hI1 : ItemsAt ((w.alloc (.cells #[.int .i64 n, .int .i64 t, .int .i64 R] 25)).alloc (.cells #[.int .i64 n2, .int .i64 t2, .int .i64 R2] 25)) x xs := hI.below (((Below.refl _ _).alloc (Nat.le_refl _) _).alloc (by simp) _)
  have hmf : ∀ (fn : Fn) (first cap : Array Value) (w : World), (Instr.makeFunc fn first cap).run Tryz.prog w = .ok (.func fn first cap) w := fun _ _ _ _ => rfl
  clear h hm hl hF hI h2
  go_enter Tryz.func22, Tryz.ntmps22
  go_wp2_with (go_at_call 42; refine (both_yes _ _ _ _ _ _ _ _ _ _ H.out H2.out HN.out hL1 hI1 HM.out).mono ?_; rintro e w1 ⟨s, s2, rfl, hs, hs2, hne, hst, hst2, hb1⟩; have HST : Hid (StAt w1 s n t R (R * t) 0 ∧ StAt w1 s2 n2 t2 R2 (R2 * t2) 0 ∧ ¬ s = s2) := ⟨hst, hst2, hne⟩; clear hst hst2 hne)
  have hB : Below w.heap.size w w1 := (((Below.refl _ _).alloc (Nat.le_refl _) _).alloc (by simp) _).trans (hb1.mono (by simp; omega))
  have hB2 : Below w.heap.size w (w1.alloc (.cells #[.pointer (some ⟨s, 0, none⟩)] 63)) := hB.alloc hB.size _
  have hB3 := hB2.alloc hB2.size (.cells #[.pointer (some ⟨s2, 0, none⟩)] 63)
  have hsw : w.heap.size ≤ s := by simp at hs; omega
  have hsw2 : w.heap.size ≤ s2 := by simp at hs2; omega
  refine (eachTwo_any n t R n2 t2 R2 x cap xs (s := s) (s2 := s2) (c := w1.heap.size) (c2 := w1.heap.size + 1) _ (by rw [World.cell?_alloc_lt _ _ ⟨w1.heap.size, 0, none⟩ (by simp)]; simp) (by simp) ((HST.out.1.alloc _).alloc _) ((HST.out.2.1.alloc _).alloc _) HST.out.2.2 H.out H2.out HF.out h100 (HI.out.below hB3) ?_).mono ?_
  · rintro b off rfl hne e
    have := HI.out.lt hne
    omega
  rintro e w2 ⟨g, rfl, hg, hrow, ho⟩
  go_wp2
  go_ret2
  exact ⟨g, rfl, by simp at hg; have := hB.size; omega, hrow, hB3.trans (ho.below hB3.size (fun k e => by rcases e with rfl | rfl <;> assumption))⟩
end Go.Proofs.YtdaapdpbnijefaaGreatDoor
