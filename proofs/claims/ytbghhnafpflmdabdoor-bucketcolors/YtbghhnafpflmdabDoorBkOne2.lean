/-
  bucket.One, whole: the errors; else, in new memory, the colors by one rate and two rooms; nothing that was there before is otherwise. Conditions: errors.errorType holds its handle; the packets lie in memory.
-/
import Derived.Test.YtbghhnafpflmdabDoorBkOne
namespace Go.Proofs.YtbghhnafpflmdabDoor
open Go.RowKit Go.Extern.Stop Go.Stop Go.Extern

theorem eachOne_any (n t R E : Int) (x0 : Option Addr) (cap : Nat) (xs : List It) {s s2 c c2 : Nat} (w : World) (hc : w.cell? ⟨c, 0, none⟩ = some (.pointer (some ⟨s, 0, none⟩))) (hc2 : w.cell? ⟨c2, 0, none⟩ = some (.pointer (some ⟨s2, 0, none⟩))) (hst : StAt w s n t R (R * t) 0) (hst2 : StAt w s2 n t E (E * t) 0) (hne : ¬ s = s2) (h : okB n t R) (h2 : okB n t E) (hF : Fine xs) (h100 : xs.length ≤ 100) (hI : ItemsAt w x0 xs) (hsx : ∀ b off, x0 = some ⟨b, off, none⟩ → xs ≠ [] → ¬ (b = s ∨ b = s2)) :
    Calls Tryd.prog 24 #[.slice x0 xs.length cap, .func (.func 25) #[] #[.pointer (some ⟨c2, 0, none⟩), .pointer (some ⟨c, 0, none⟩)]] w fun e w' => ∃ g, e = .returned (.slice (some ⟨g, 0, none⟩) xs.length xs.length) ∧ w.heap.size ≤ g ∧ RowI w' g xs.length (col n t R E xs) ∧ Oth (fun k => k = s ∨ k = s2) w w' := by
  have hcl := lt_of_cell hc
  have hcl2 := lt_of_cell hc2
  have hsl := hst.lt
  have hsl2 := hst2.lt
  have hcs : ¬ c = s := by
    rintro rfl
    have := hst.cells.1
    rw [hc] at this; simp at this
  have hcs2 : ¬ c = s2 := by
    rintro rfl
    have := hst2.cells.1
    rw [hc] at this; simp at this
  have hc2s : ¬ c2 = s := by
    rintro rfl
    have := hst.cells.1
    rw [hc2] at this; simp at this
  have hc2s2 : ¬ c2 = s2 := by
    rintro rfl
    have := hst2.cells.1
    rw [hc2] at this; simp at this
  refine (eachI_any 25 #[.pointer (some ⟨c2, 0, none⟩), .pointer (some ⟨c, 0, none⟩)] x0 cap xs (col n t R E xs) (fun k W => W.cell? ⟨c, 0, none⟩ = some (.pointer (some ⟨s, 0, none⟩)) ∧ W.cell? ⟨c2, 0, none⟩ = some (.pointer (some ⟨s2, 0, none⟩)) ∧ StAt W s n t R (bst n t R xs k).1 (bst n t R xs k).2 ∧ StAt W s2 n t E (est n t R E xs k) 0) (fun k => k = s ∨ k = s2) w hI (fun k e => by rcases e with rfl | rfl <;> assumption) hsx h100 entersOne ⟨hc, hc2, hst, hst2⟩ ?_ ?_).mono ?_
  · rintro k W W' ⟨h1, h2, h3, h4⟩ hb
    exact ⟨(hb.cell (p := ⟨c, 0, none⟩) hcl).trans h1, (hb.cell (p := ⟨c2, 0, none⟩) hcl2).trans h2, (hb.block s hsl).trans h3, (hb.block s2 hsl2).trans h4⟩
  · rintro k x W hx ⟨h1, h1', h3, h4⟩
    have hk : k < xs.length := (List.getElem?_eq_some_iff.1 hx).1
    have hl := bst_lev (n := n) (t := t) (R := R) hF h.1.1 h.2.1.1 h.2.2.1 k (by omega)
    have ht := (bst_lat (n := n) (t := t) (R := R) hF k (by omega)).1
    have he := est_bounds (n := n) (t := t) (R := R) (E := E) hF h.2.1.1 h2.2.2.1 k (by omega)
    have hx' := (hF k x hx).1
    refine (one1_any x W h1 h1' h3 h4 hne h h2 hl.1 hl.2 he.1 he.2 ht.1 (by omega) (by omega) (by omega)).mono ?_
    rintro e W' ⟨rfl, h5, h6, h7⟩
    refine ⟨?_, ⟨(h7.cell (p := ⟨c, 0, none⟩) (lt_of_cell h1) (by simp only; omega)).trans h1, (h7.cell (p := ⟨c2, 0, none⟩) (lt_of_cell h1') (by simp only; omega)).trans h1', ?_, ?_⟩, h7⟩
    · rw [col_at hx, bok_at hx]
      simp only [colO, drwB, decide_eq_true_eq]
    · rw [bst_succ hx]; exact h5
    · rw [est_succ hx, bok_at hx]
      have : lefO t (pas n t R (bst n t R xs k).1 (bst n t R xs k).2 x.a) (pou t E (est n t R E xs k) (ovr n t R (bst n t R xs k).1 (bst n t R xs k).2 x.a)) x.l = if decide (x.l * t ≤ pas n t R (bst n t R xs k).1 (bst n t R xs k).2 x.a) then pou t E (est n t R E xs k) (ovr n t R (bst n t R xs k).1 (bst n t R xs k).2 x.a) else if x.l * t ≤ pou t E (est n t R E xs k) (ovr n t R (bst n t R xs k).1 (bst n t R xs k).2 x.a) then pou t E (est n t R E xs k) (ovr n t R (bst n t R xs k).1 (bst n t R xs k).2 x.a) - x.l * t else pou t E (est n t R E xs k) (ovr n t R (bst n t R xs k).1 (bst n t R xs k).2 x.a) := rfl
      rw [← this]; exact h6
  · rintro e w' ⟨g, rfl, h1, h2, _, h4⟩
    exact ⟨g, rfl, h1, h2, h4⟩

theorem one_nob (n t R E : Int) (l : Value) (w : World) (h : ¬ okB n t R) :
    Calls Tryd.prog 13 #[.agg #[.int .i64 n, .int .i64 t, .int .i64 R], .int .i64 E, l] w fun e w' => e = .returned (.tuple #[.slice none 0 0, .iface 57 (.int .i64 2)]) ∧ Below w.heap.size w w' := by
  have H : Hid (¬ okB n t R) := h
  clear h
  go_enter Tryd.func13, Tryd.ntmps13
  go_wp2_with (go_at_call 23; refine (both_nob _ _ _ _ _ _ _ _ H.out).mono ?_; rintro e w1 ⟨rfl, hb1⟩)
  go_ret2
  have hB : Below w.heap.size w w1 := ((Below.refl _ _).alloc (Nat.le_refl _) _).trans (hb1.mono (by simp))
  exact ⟨rfl, (hB.alloc hB.size _).alloc (by simp; have := hB.size; omega) _⟩
theorem one_nob2 (n t R E : Int) (l : Value) (w : World) (h : okB n t R) (h2 : ¬ okB n t E) :
    Calls Tryd.prog 13 #[.agg #[.int .i64 n, .int .i64 t, .int .i64 R], .int .i64 E, l] w fun e w' => e = .returned (.tuple #[.slice none 0 0, .iface 57 (.int .i64 2)]) ∧ Below w.heap.size w w' := by
  have H : Hid (okB n t R) := h
  have H2 : Hid (¬ okB n t E) := h2
  clear h h2
  go_enter Tryd.func13, Tryd.ntmps13
  go_wp2_with (go_at_call 23; refine (both_nob2 _ _ _ _ _ _ _ _ H.out H2.out).mono ?_; rintro e w1 ⟨rfl, hb1⟩)
  go_ret2
  have hB : Below w.heap.size w w1 := ((Below.refl _ _).alloc (Nat.le_refl _) _).trans (hb1.mono (by simp))
  exact ⟨rfl, (hB.alloc hB.size _).alloc (by simp; have := hB.size; omega) _⟩
theorem one_nol (n t R E : Int) (x : Option Addr) (cap : Nat) (xs : List It) (w : World) (h : okB n t R) (h2 : okB n t E) (hl : ¬ okL xs) (hL : Laid w) (hI : ItemsAt w x xs) (hm : xs.length ≤ maxLen) :
    Calls Tryd.prog 13 #[.agg #[.int .i64 n, .int .i64 t, .int .i64 R], .int .i64 E, .slice x xs.length cap] w fun e w' => ∃ t' u', e = .returned (.tuple #[.slice none 0 0, .iface t' u']) ∧ ErrIs w' (.iface t' u') (listE xs).1 (listE xs).2 ∧ Below w.heap.size w w' := by
  have H : Hid (okB n t R) := h
  have H2 : Hid (okB n t E) := h2
  have HM : Hid (xs.length ≤ maxLen) := hm
  have HN : Hid (¬ okL xs) := hl
  have hL1 : Laid (w.alloc (.cells #[.int .i64 n, .int .i64 t, .int .i64 R] 25)) := hL.alloc _
  have hI1 : ItemsAt (w.alloc (.cells #[.int .i64 n, .int .i64 t, .int .i64 R] 25)) x xs := hI.below ((Below.refl _ _).alloc (Nat.le_refl _) _)
  clear h hm hl h2
  go_enter Tryd.func13, Tryd.ntmps13
  go_wp2_with (go_at_call 23; refine (both_nol _ _ _ _ _ _ _ _ _ _ H.out H2.out HN.out hL1 hI1 HM.out).mono ?_; rintro e w1 ⟨t', u', rfl, he, hb1⟩; have HE : Hid (ErrIs w1 (.iface t' u') (listE xs).1 (listE xs).2) := he; clear he)
  go_ret2
  have hB : Below w.heap.size w w1 := ((Below.refl _ _).alloc (Nat.le_refl _) _).trans (hb1.mono (by simp))
  exact ⟨_, _, rfl, HE.out.below (((Below.refl _ _).alloc (Nat.le_refl _) _).alloc (by simp) _), (hB.alloc hB.size _).alloc (by simp; have := hB.size; omega) _⟩
theorem one_yes (n t R E : Int) (x : Option Addr) (cap : Nat) (xs : List It) (w : World) (h : okB n t R) (h2 : okB n t E) (hl : okL xs) (hL : Laid w) (hI : ItemsAt w x xs) :
    Calls Tryd.prog 13 #[.agg #[.int .i64 n, .int .i64 t, .int .i64 R], .int .i64 E, .slice x xs.length cap] w fun e w' => ∃ g, e = .returned (.tuple #[.slice (some ⟨g, 0, none⟩) xs.length xs.length, .nilIface]) ∧ w.heap.size ≤ g ∧ RowI w' g xs.length (col n t R E xs) ∧ Below w.heap.size w w' := by
  obtain ⟨hF, h100⟩ := hl.fine
  have hm : xs.length ≤ maxLen := by unfold maxLen; omega
  have H : Hid (okB n t R) := h
  have H2 : Hid (okB n t E) := h2
  have HM : Hid (xs.length ≤ maxLen) := hm
  have HN : Hid (okL xs) := hl
  have HF : Hid (Fine xs) := hF
  have HI : Hid (ItemsAt w x xs) := hI
  have hL1 : Laid (w.alloc (.cells #[.int .i64 n, .int .i64 t, .int .i64 R] 25)) := hL.alloc _
  have hI1 : ItemsAt (w.alloc (.cells #[.int .i64 n, .int .i64 t, .int .i64 R] 25)) x xs := hI.below ((Below.refl _ _).alloc (Nat.le_refl _) _)
  have hmf : ∀ (fn : Fn) (first cap : Array Value) (w : World), (Instr.makeFunc fn first cap).run Tryd.prog w = .ok (.func fn first cap) w := fun _ _ _ _ => rfl
  clear h hm hl hF hI h2
  go_enter Tryd.func13, Tryd.ntmps13
  go_wp2_with (go_at_call 23; refine (both_yes _ _ _ _ _ _ _ _ _ _ H.out H2.out HN.out hL1 hI1 HM.out).mono ?_; rintro e w1 ⟨s, s2, rfl, hs, hs2, hne, hst, hst2, hb1⟩; have HST : Hid (StAt w1 s n t R (R * t) 0 ∧ StAt w1 s2 n t E (E * t) 0 ∧ ¬ s = s2) := ⟨hst, hst2, hne⟩; clear hst hst2 hne)
  have hB : Below w.heap.size w w1 := ((Below.refl _ _).alloc (Nat.le_refl _) _).trans (hb1.mono (by simp))
  have hB2 : Below w.heap.size w (w1.alloc (.cells #[.pointer (some ⟨s, 0, none⟩)] 45)) := hB.alloc hB.size _
  have hB3 := hB2.alloc hB2.size (.cells #[.pointer (some ⟨s2, 0, none⟩)] 45)
  have hsw : w.heap.size ≤ s := by simp at hs; omega
  have hsw2 : w.heap.size ≤ s2 := by simp at hs2; omega
  refine (eachOne_any n t R E x cap xs (s := s) (s2 := s2) (c := w1.heap.size) (c2 := w1.heap.size + 1) _ (by rw [World.cell?_alloc_lt _ _ ⟨w1.heap.size, 0, none⟩ (by simp)]; simp) (by simp) ((HST.out.1.alloc _).alloc _) ((HST.out.2.1.alloc _).alloc _) HST.out.2.2 H.out H2.out HF.out h100 (HI.out.below hB3) ?_).mono ?_
  · rintro b off rfl hne e
    have := HI.out.lt hne
    omega
  rintro e w2 ⟨g, rfl, hg, hrow, ho⟩
  go_wp2
  go_ret2
  exact ⟨g, rfl, by simp at hg; have := hB.size; omega, hrow, hB3.trans (ho.below hB3.size (fun k e => by rcases e with rfl | rfl <;> assumption))⟩
end Go.Proofs.YtbghhnafpflmdabDoor
