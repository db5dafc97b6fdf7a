/-
  bucket.Cells: of a bucket that may not be, or of packets that may not be, the error; else, in new memory, which packets conform by when they should come; nothing that was there before is otherwise. Conditions: errors.errorType holds its handle; the packets lie in memory.
-/
import Derived.Test.YtlcifhmnjmnofaaDoorBkCf
namespace Go.Proofs.YtlcifhmnjmnofaaDoor
open Go.RowKit Go.Extern.Stop Go.Stop Go.Extern

theorem entersCe (args : Array Value) (W : World) : (callFunc 23 args).run Tryd.prog W = .ok (.enter 23 args) W := enters_of Tryd.func23 (by kernel_rfl) rfl args W

/-- When all would have been sent, this packet too. -/
def nxt (n t du a l : Int) : Int := (if du ≤ a * n then a * n else du) + l * t
def ceB (n t R du a l : Int) : Bool := !decide (a * n + R * t < nxt n t du a l)
def ceD (n t R du a l : Int) : Int := if a * n + R * t < nxt n t du a l then du else nxt n t du a l

theorem setOne {w : World} {d : Nat} {v : Value} {T : TypeId} (h : w.heap[d]? = some (.cells #[v] T (0, 0))) (u : Value) : (w.setCell ⟨d, 0, none⟩ u).heap[d]? = some (.cells #[u] T (0, 0)) := one_setCell h

set_option maxHeartbeats 1000000 in
theorem cells1_any {n t R lev lat du : Int} (x : It) {s c d : Nat} (w : World) (hc : w.cell? ⟨c, 0, none⟩ = some (.pointer (some ⟨s, 0, none⟩))) (hd : w.heap[d]? = some (.cells #[.int .i64 du] 3 (0, 0))) (h : StAt w s n t R lev lat) (hb : okB n t R) (hd0 : 0 ≤ du) (hd1 : du ≤ 1000000000 * n + R * t) (ha0 : 0 ≤ x.a) (ha1 : x.a ≤ 1000000000) (hx0 : 0 ≤ x.l) (hx1 : x.l ≤ 1000000) :
    Calls Tryd.prog 23 #[.agg #[.int .i64 x.a, .int .i64 x.l, .int .i64 x.f, .int .i64 x.b, .int .i64 x.m], .pointer (some ⟨c, 0, none⟩), .pointer (some ⟨d, 0, none⟩)] w fun e w' => e = .returned (.bool (ceB n t R du x.a x.l)) ∧ w'.heap[d]? = some (.cells #[.int .i64 (ceD n t R du x.a x.l)] 3 (0, 0)) ∧ Oth (· = d) w w' := by
  obtain ⟨hr0, hr1⟩ := hb.room
  obtain ⟨hg0, hg1⟩ := prod_bounds (n := t) (R := x.l) (a := 1000000) (b := 1000000) (by have := hb.2.1; omega) hb.2.1.2 hx0 hx1
  have hg1' : x.l * t ≤ 1000000000000 := by omega
  obtain ⟨hq0, hq1⟩ := prod_bounds (n := n) (R := x.a) (a := 1000000) (b := 1000000000) (by have := hb.1; omega) hb.1.2 ha0 ha1
  have hq1' : x.a * n ≤ 1000000000000000 := by omega
  have hd1' : du ≤ 1001000000000000 := by have := hb.1.2; omega
  have H : Hid (StAt (w.alloc (.cells #[.int .i64 x.a, .int .i64 x.l, .int .i64 x.f, .int .i64 x.b, .int .i64 x.m] 51)) s n t R lev lat) := h.alloc _
  obtain ⟨c0, c1, c2, c3, c4, _, _⟩ := H.out.cells
  have hdl := lt_of_block hd
  have HD : Hid ((w.alloc (.cells #[.int .i64 x.a, .int .i64 x.l, .int .i64 x.f, .int .i64 x.b, .int .i64 x.m] 51)).heap[d]? = some (.cells #[.int .i64 du] 3 (0, 0))) := (Below.heap_alloc _ _ _ hdl).trans hd
  have e0 := cell_of_one HD.out
  have e1 := free_of_one HD.out
  have hcl := lt_of_cell hc
  have f0 : (w.alloc (.cells #[.int .i64 x.a, .int .i64 x.l, .int .i64 x.f, .int .i64 x.b, .int .i64 x.m] 51)).cell? ⟨c, 0, none⟩ = some (.pointer (some ⟨s, 0, none⟩)) := by
    rw [World.cell?_alloc_lt _ _ ⟨c, 0, none⟩ hcl]; exact hc
  clear h hc hd hcl hdl hb hg1 hq1 hd1
  by_cases hA : du < x.a * n
  · have HA : Hid (nxt n t du x.a x.l = x.a * n + x.l * t) := by unfold Hid nxt; rw [if_pos (by omega)]
    by_cases hB : x.a * n + R * t < x.a * n + x.l * t
    · have HB : Hid (x.a * n + R * t < x.a * n + x.l * t) := hB
      go_enter Tryd.func23, Tryd.ntmps23
      go_wp2
      go_quiet (fail)
      go_wp2
      go_quiet ((go_at_call 24; refine (worth_any _ _ (by exact H.out) hg0 hg1').mono ?_; rintro e w' ⟨rfl, rfl⟩; exact ⟨rfl, _, rfl⟩))
      go_wp2
      go_quiet ((go_at_call 24; refine (worth_any _ _ (by exact H.out) hr0 hr1).mono ?_; rintro e w' ⟨rfl, rfl⟩; exact ⟨rfl, _, rfl⟩))
      go_wp2
      go_ret
      refine ⟨?_, ?_, ?_⟩
      · have : ceB n t R du x.a x.l = false := by rw [ceB, HA.out]; have := HB.out; simp; omega
        rw [this]; rfl
      · have : ceD n t R du x.a x.l = du := by rw [ceD, HA.out, if_pos HB.out]
        rw [this]; exact HD.out
      · repeat (first | exact (Oth.refl (· = d) w).alloc _ | refine Oth.drewN ?_ _ | refine Oth.setCell (S := (· = d)) (p := ⟨d, 0, none⟩) ?_ (show d = d from rfl) _)
    · have HB : Hid (x.a * n + x.l * t ≤ x.a * n + R * t) := Int.not_lt.1 hB
      go_enter Tryd.func23, Tryd.ntmps23
      go_wp2
      go_quiet (fail)
      go_wp2
      go_quiet ((go_at_call 24; refine (worth_any _ _ (by exact H.out) hg0 hg1').mono ?_; rintro e w' ⟨rfl, rfl⟩; exact ⟨rfl, _, rfl⟩))
      go_wp2
      go_quiet ((go_at_call 24; refine (worth_any _ _ (by exact H.out) hr0 hr1).mono ?_; rintro e w' ⟨rfl, rfl⟩; exact ⟨rfl, _, rfl⟩))
      go_wp2
      go_ret
      refine ⟨?_, ?_, ?_⟩
      · have : ceB n t R du x.a x.l = true := by rw [ceB, HA.out]; have := HB.out; simp; omega
        rw [this]; rfl
      · have : ceD n t R du x.a x.l = x.a * n + x.l * t := by rw [ceD, HA.out, if_neg (Int.not_lt.2 HB.out)]
        rw [this]; exact setOne HD.out _
      · repeat (first | exact (Oth.refl (· = d) w).alloc _ | refine Oth.drewN ?_ _ | refine Oth.setCell (S := (· = d)) (p := ⟨d, 0, none⟩) ?_ (show d = d from rfl) _)
  · have HA : Hid (nxt n t du x.a x.l = du + x.l * t) := by unfold Hid nxt; split <;> omega
    by_cases hB : x.a * n + R * t < du + x.l * t
    · have HB : Hid (x.a * n + R * t < du + x.l * t) := hB
      go_enter Tryd.func23, Tryd.ntmps23
      go_wp2
      go_quiet (fail)
      go_wp2
      go_quiet ((go_at_call 24; refine (worth_any _ _ (by exact H.out) hg0 hg1').mono ?_; rintro e w' ⟨rfl, rfl⟩; exact ⟨rfl, _, rfl⟩))
      go_wp2
      go_quiet ((go_at_call 24; refine (worth_any _ _ (by exact H.out) hr0 hr1).mono ?_; rintro e w' ⟨rfl, rfl⟩; exact ⟨rfl, _, rfl⟩))
      go_wp2
      go_ret
      refine ⟨?_, ?_, ?_⟩
      · have : ceB n t R du x.a x.l = false := by rw [ceB, HA.out]; have := HB.out; simp; omega
        rw [this]; rfl
      · have : ceD n t R du x.a x.l = du := by rw [ceD, HA.out, if_pos HB.out]
        rw [this]; exact HD.out
      · repeat (first | exact (Oth.refl (· = d) w).alloc _ | refine Oth.drewN ?_ _ | refine Oth.setCell (S := (· = d)) (p := ⟨d, 0, none⟩) ?_ (show d = d from rfl) _)
    · have HB : Hid (du + x.l * t ≤ x.a * n + R * t) := Int.not_lt.1 hB
      go_enter Tryd.func23, Tryd.ntmps23
      go_wp2
      go_quiet (fail)
      go_wp2
      go_quiet ((go_at_call 24; refine (worth_any _ _ (by exact H.out) hg0 hg1').mono ?_; rintro e w' ⟨rfl, rfl⟩; exact ⟨rfl, _, rfl⟩))
      go_wp2
      go_quiet ((go_at_call 24; refine (worth_any _ _ (by exact H.out) hr0 hr1).mono ?_; rintro e w' ⟨rfl, rfl⟩; exact ⟨rfl, _, rfl⟩))
      go_wp2
      go_ret
      refine ⟨?_, ?_, ?_⟩
      · have : ceB n t R du x.a x.l = true := by rw [ceB, HA.out]; have := HB.out; simp; omega
        rw [this]; rfl
      · have : ceD n t R du x.a x.l = du + x.l * t := by rw [ceD, HA.out, if_neg (Int.not_lt.2 HB.out)]
        rw [this]; exact setOne HD.out _
      · repeat (first | exact (Oth.refl (· = d) w).alloc _ | refine Oth.drewN ?_ _ | refine Oth.setCell (S := (· = d)) (p := ⟨d, 0, none⟩) ?_ (show d = d from rfl) _)

theorem cells_nob (n t R : Int) (l : Value) (w : World) (h : ¬ okB n t R) :
    Calls Tryd.prog 8 #[.agg #[.int .i64 n, .int .i64 t, .int .i64 R], l] w fun e w' => e = .returned (.tuple #[.slice none 0 0, .iface 28 (.int .i64 2)]) ∧ Below w.heap.size w w' := by
  have H : Hid (¬ okB n t R) := h
  clear h
  go_enter Tryd.func8, Tryd.ntmps8
  go_wp2_with (go_at_call 21; refine (open_nob _ _ _ _ _ H.out).mono ?_; rintro e w1 ⟨rfl, hb1⟩)
  go_ret2
  have hB : Below w.heap.size w w1 := ((Below.refl _ _).alloc (Nat.le_refl _) _).trans (hb1.mono (by simp))
  exact ⟨rfl, hB.alloc hB.size _⟩
theorem cells_nol (n t R : Int) (x : Option Addr) (cap : Nat) (xs : List It) (w : World) (h : okB n t R) (hl : ¬ okL xs) (hL : Laid w) (hI : ItemsAt w x xs) (hm : xs.length ≤ maxLen) :
    Calls Tryd.prog 8 #[.agg #[.int .i64 n, .int .i64 t, .int .i64 R], .slice x xs.length cap] w fun e w' => ∃ t' u', e = .returned (.tuple #[.slice none 0 0, .iface t' u']) ∧ ErrIs w' (.iface t' u') (listE xs).1 (listE xs).2 ∧ Below w.heap.size w w' := by
  have H : Hid (okB n t R) := h
  have HM : Hid (xs.length ≤ maxLen) := hm
  have HN : Hid (¬ okL xs) := hl
  have hL1 : Laid (w.alloc (.cells #[.int .i64 n, .int .i64 t, .int .i64 R] 25)) := hL.alloc _
  have hI1 : ItemsAt (w.alloc (.cells #[.int .i64 n, .int .i64 t, .int .i64 R] 25)) x xs := hI.below ((Below.refl _ _).alloc (Nat.le_refl _) _)
  clear h hm hl
  go_enter Tryd.func8, Tryd.ntmps8
  go_wp2_with (go_at_call 21; refine (open_nol _ _ _ _ _ _ _ H.out HN.out hL1 hI1 HM.out).mono ?_; rintro e w1 ⟨v, rfl, he, hb1⟩; obtain ⟨t', u', rfl⟩ := he.iface HN.out)
  go_ret2
  have hB : Below w.heap.size w w1 := ((Below.refl _ _).alloc (Nat.le_refl _) _).trans (hb1.mono (by simp))
  exact ⟨_, _, rfl, he.below ((Below.refl _ _).alloc (Nat.le_refl _) _), hB.alloc hB.size _⟩

theorem eachCe_any (n t R lev lat : Int) (x0 : Option Addr) (cap : Nat) (xs : List It) {s c d : Nat} (w : World) (hc : w.cell? ⟨c, 0, none⟩ = some (.pointer (some ⟨s, 0, none⟩))) (hd : w.heap[d]? = some (.cells #[.int .i64 0] 3 (0, 0))) (hst : StAt w s n t R lev lat) (h : okB n t R) (hF : Fine xs) (h100 : xs.length ≤ 100) (hI : ItemsAt w x0 xs) (hsx : ∀ b off, x0 = some ⟨b, off, none⟩ → xs ≠ [] → b ≠ d) :
    Calls Tryd.prog 22 #[.slice x0 xs.length cap, .func (.func 23) #[] #[.pointer (some ⟨c, 0, none⟩), .pointer (some ⟨d, 0, none⟩)]] w fun e w' => ∃ g, e = .returned (.slice (some ⟨g, 0, none⟩) xs.length xs.length) ∧ w.heap.size ≤ g ∧ RowB w' g xs.length (cok n t R xs) ∧ Oth (· = d) w w' := by
  have hcl := lt_of_cell hc
  have hsl := hst.lt
  have hdl := lt_of_block hd
  have hne : ¬ c = d := by
    rintro rfl
    have := cell_of_one hd
    rw [hc] at this
    simp at this
  have hns : ¬ s = d := by
    rintro rfl
    have h1 : w.heap[s]? = _ := hst.2
    rw [hd] at h1
    simp at h1
  refine (eachB_any 23 #[.pointer (some ⟨c, 0, none⟩), .pointer (some ⟨d, 0, none⟩)] x0 cap xs (cok n t R xs) (fun k W => W.cell? ⟨c, 0, none⟩ = some (.pointer (some ⟨s, 0, none⟩)) ∧ StAt W s n t R lev lat ∧ W.heap[d]? = some (.cells #[.int .i64 (due n t R xs k)] 3 (0, 0))) (· = d) w hI (fun k e => by subst e; exact hdl) hsx h100 entersCe ⟨hc, hst, hd⟩ ?_ ?_).mono ?_
  · rintro k W W' ⟨h1, h2, h3⟩ hb
    exact ⟨(hb.cell (p := ⟨c, 0, none⟩) hcl).trans h1, h2.same (hb.block s hsl), (hb.block d hdl).trans h3⟩
  · rintro k x W hx ⟨h1, h2, h3⟩
    have hk : k < xs.length := (List.getElem?_eq_some_iff.1 hx).1
    have hl := due_bounds (n := n) (t := t) (R := R) hF h.1.1 h.2.1.1 h.2.2.1 k (by omega)
    have hx' := (hF k x hx).1
    refine (cells1_any x W h1 h3 h2 h hl.1 hl.2 (by omega) (by omega) (by omega) (by omega)).mono ?_
    rintro e W' ⟨rfl, h4, h5⟩
    refine ⟨by simp only [cok, hx]; rfl, ⟨(h5.cell (p := ⟨c, 0, none⟩) (lt_of_cell h1) hne).trans h1, h2.kept h5 hns, ?_⟩, h5⟩
    rw [due_succ hx]; exact h4
  · rintro e w' ⟨g, rfl, h1, h2, _, h4⟩
    exact ⟨g, rfl, h1, h2, h4⟩
theorem cells_yes (n t R : Int) (x : Option Addr) (cap : Nat) (xs : List It) (w : World) (h : okB n t R) (hl : okL xs) (hL : Laid w) (hI : ItemsAt w x xs) :
    Calls Tryd.prog 8 #[.agg #[.int .i64 n, .int .i64 t, .int .i64 R], .slice x xs.length cap] w fun e w' => ∃ g, e = .returned (.tuple #[.slice (some ⟨g, 0, none⟩) xs.length xs.length, .nilIface]) ∧ w.heap.size ≤ g ∧ RowB w' g xs.length (cok n t R xs) ∧ Below w.heap.size w w' := by
  obtain ⟨hF, h100⟩ := hl.fine
  have hm : xs.length ≤ maxLen := by unfold maxLen; omega
  have H : Hid (okB n t R) := h
  have HM : Hid (xs.length ≤ maxLen) := hm
  have HN : Hid (okL xs) := hl
  have HF : Hid (Fine xs) := hF
  have HI : Hid (ItemsAt w x xs) := hI
  have hL1 : Laid (w.alloc (.cells #[.int .i64 n, .int .i64 t, .int .i64 R] 25)) := hL.alloc _
  have hI1 : ItemsAt (w.alloc (.cells #[.int .i64 n, .int .i64 t, .int .i64 R] 25)) x xs := hI.below ((Below.refl _ _).alloc (Nat.le_refl _) _)
  have hmf : ∀ (fn : Fn) (first cap : Array Value) (w : World), (Instr.makeFunc fn first cap).run Tryd.prog w = .ok (.func fn first cap) w := fun _ _ _ _ => rfl
  clear h hm hl hF hI
  go_enter Tryd.func8, Tryd.ntmps8
  go_wp2_with (go_at_call 21; refine (open_yes _ _ _ _ _ _ _ H.out HN.out hL1 hI1 HM.out).mono ?_; rintro e w1 ⟨s, rfl, hs, hst, hb1⟩; have HST : Hid (StAt w1 s n t R (R * t) 0) := hst; clear hst)
  have hB : Below w.heap.size w w1 := ((Below.refl _ _).alloc (Nat.le_refl _) _).trans (hb1.mono (by simp))
  have hB2 : Below w.heap.size w (w1.alloc (.cells #[.pointer (some ⟨s, 0, none⟩)] 53)) := hB.alloc hB.size _
  refine (eachCe_any n t R (R * t) 0 x cap xs (s := s) (c := w1.heap.size) (d := w1.heap.size + 1) _ (by rw [World.cell?_alloc_lt _ _ ⟨w1.heap.size, 0, none⟩ (by simp)]; simp) ?_ ((HST.out.alloc _).alloc _) H.out HF.out h100 (HI.out.below (hB2.alloc hB2.size _)) ?_).mono ?_
  · have := heap_alloc_new (w1.alloc (.cells #[.pointer (some ⟨s, 0, none⟩)] 53)) (.cells #[.int .i64 0] 3)
    simpa using this
  · rintro b off rfl hne e
    have := HI.out.lt hne
    have := hB.size
    omega
  rintro e w2 ⟨g, rfl, hg, hrow, ho⟩
  go_wp2
  go_ret2
  exact ⟨g, rfl, by simp at hg; have := hB.size; omega, hrow, (hB2.alloc hB2.size _).trans (ho.below (by simp; have := hB.size; omega) (fun k e => by subst e; have := hB.size; omega))⟩
end Go.Proofs.YtlcifhmnjmnofaaDoor
