/-
  The law ActionFields, walked. Conditions: actions and buckets lie in memory, errors.errorType is laid.
-/
import Derived.Test.YtnoppfgikanebaaDoorAcb
namespace Go.Proofs.YtnoppfgikanebaaDoor
open Go.RowKit Go.Extern.Stop Go.Stop Go.Extern

theorem ErrIs.iface {w : World} {v : Value} {E P : Int} (h : ErrIs w v E P) (h0 : E ≠ 0) : ∃ t u, v = .iface t u := by
  rcases h with ⟨_, h, _⟩ | ⟨rfl, _⟩ | ⟨a, rfl, _⟩
  · exact absurd h h0
  · exact ⟨_, _, rfl⟩
  · exact ⟨_, _, rfl⟩
theorem it_does {w w' : World} {H0 pb xb : Nat} {av bv : Value} {ps : List Nat} {L : List Ac} {C : List Int} {B : List Bs} {x : It} (hx : ItAt w xb x) (h : PrAt w H0 pb av bv ps L C B) (ho : Ot (fun k => k = pb ∨ k ∈ ps) w w') : ItAt w' xb x := by
  refine hx.kept (ho.block _ hx.lt ?_)
  rintro (e | h')
  · exact noEqT hx h.hd (by decide) e
  · obtain ⟨cur, hc⟩ := h.stat h'
    exact noEqT hx hc (by decide) rfl
/-- A box that holds the actions' slice. -/
def LBox (w : World) (c : Nat) (v : Value) : Prop := w.heap[c]? = some (.cells #[v] 22 (0, 0))
theorem LBox.cell {w : World} {c : Nat} {v : Value} (h : LBox w c v) : w.cell? ⟨c, 0, none⟩ = some v := by
  have h' : w.heap[c]? = some (.cells #[v] 22 (0, 0)) := h
  simp [World.cell?, h']
theorem LBox.lt {w : World} {c : Nat} {v : Value} (h : LBox w c v) : c < w.heap.size := lt_of_block h
theorem LBox.below {w w' : World} {c : Nat} {v : Value} (h : LBox w c v) (hb : Below w.heap.size w w') : LBox w' c v := (hb.block _ h.lt).trans h
theorem lb_does {w w' : World} {H0 pb c : Nat} {av bv v : Value} {ps : List Nat} {L : List Ac} {C : List Int} {B : List Bs} (hx : LBox w c v) (h : PrAt w H0 pb av bv ps L C B) (ho : Ot (fun k => k = pb ∨ k ∈ ps) w w') : LBox w' c v := by
  refine (ho.block _ hx.lt ?_).trans hx
  rintro (e | h')
  · exact noEqT hx h.hd (by decide) e
  · obtain ⟨cur, hc⟩ := h.stat h'
    exact noEqT hx hc (by decide) rfl
theorem fields_long (px qx : Option Addr) (cap qcap n m : Nat) (x : It) (w : World) (h1 : n ≤ maxLen) (h2 : m ≤ maxLen) (h : 60 < n ∨ 10 < m) :
    Calls Tryd.prog 3 #[.slice px n cap, .slice qx m qcap, .agg x.cells] w fun e w' => e = .returned (.bool true) ∧ Below w.heap.size w w' := by
  unfold maxLen at h1 h2
  unfold It.cells
  by_cases h0 : 60 < n
  · clear h
    go_enter Tryd.func3, Tryd.ntmps3
    go_wp2
    go_ret
    exact ⟨rfl, below_alloc_ (below_alloc_ (Below.refl _ _) _) _⟩
  · have h3 : 10 < m := by omega
    clear h
    go_enter Tryd.func3, Tryd.ntmps3
    go_wp2
    go_ret
    exact ⟨rfl, below_alloc_ (below_alloc_ (Below.refl _ _) _) _⟩
set_option maxRecDepth 100000 in
set_option maxHeartbeats 8000000 in
theorem fields_any (px qx : Option Addr) (cap qcap : Nat) (L : List Ac) (G : List Bk) (x : It) (w : World) (hL : Laid w) (hA : ArgAt Ac.cells w px L) (hn : px = none → L = [] ∧ cap = 0) (hfit : ∀ a ∈ L, a.fit) (hG : ArgAt Bk.cells w qx G) (h1 : L.length ≤ maxLen) (h2 : G.length ≤ maxLen) :
    Calls Tryd.prog 3 #[.slice px L.length cap, .slice qx G.length qcap, .agg x.cells] w fun e w' => e = .returned (.bool true) ∧ Below w.heap.size w w' := by
  by_cases hl : 60 < L.length ∨ 10 < G.length
  · exact fields_long px qx cap qcap _ _ x w h1 h2 hl
  have hl1 : ¬ 60 < L.length := fun h => hl (Or.inl h)
  have hl2 : ¬ 10 < G.length := fun h => hl (Or.inr h)
  have HLD : Hid (Laid w) := hL
  obtain ⟨W0, HW0⟩ : ∃ W0, Hid ((w.alloc (.cells #[.slice px L.length cap] 22)).alloc (.cells x.cells 25) = W0) := ⟨_, rfl⟩
  have HB0 : Hid (Below w.heap.size w W0) := by
    show Below _ _ _
    rw [← HW0.out]
    exact below_alloc_ (below_alloc_ (Below.refl _ _) _) _
  have HNEW := actNew_any px qx cap qcap L G W0 (hA.below HB0.out) hn hfit (hG.below HB0.out) h1 h2
  have HA : Hid (ArgAt Ac.cells w px L) := hA
  have HXB : Hid (ItAt W0 (w.heap.size + 1) x) := by
    show ItAt _ _ _
    rw [← HW0.out]
    exact it_new2 w _ x
  have HLB : Hid (LBox W0 w.heap.size (.slice px L.length cap)) := by
    show LBox _ _ _
    rw [← HW0.out]
    exact (Below.heap_alloc _ _ _ (by simp)).trans (new_block_ rfl)
  obtain ⟨n, HN⟩ : ∃ n, Hid (L.length = n) := ⟨_, rfl⟩
  obtain ⟨m, HM⟩ : ∃ m, Hid (G.length = m) := ⟨_, rfl⟩
  have HNL : Hid (L.length ≤ 60) := by show _ ≤ 60; omega
  rw [HN.out, HM.out] at HNEW
  rw [HN.out] at hl1 HW0 HLB
  rw [HM.out] at hl2
  rw [HN.out, HM.out]
  clear hL hA hn hfit hG h1 h2 hl
  have HC5 : Hid (x.cells = #[.int .i64 x.a, .int .i64 x.l, .int .i64 x.f, .int .i64 x.b, .int .i64 x.m]) := rfl
  rw [HC5.out] at HW0 ⊢
  have hmf : ∀ (fn : Fn) (first cap : Array Value) (w : World), (Instr.makeFunc fn first cap).run Tryd.prog w = .ok (.func fn first cap) w := fun _ _ _ _ => rfl
  have het := eTold
  go_enter Tryd.func3, Tryd.ntmps3
  go_wp2_with fail
  rw [HW0.out]
  refine HNEW.mono ?_
  rintro e w1 ⟨hb1, ⟨h0, pb, av, bv, ps, rfl, hp⟩ | ⟨h0, v, rfl, hv⟩⟩
  · have HP1 : Hid (PrAt w1 W0.heap.size pb av bv ps L (List.replicate 8 0) (G.map B0)) := hp
    have HGD : Hid (GoodA L (G.map B0).length) := by
      show GoodA _ _
      rw [List.length_map]
      exact newE_good h0
    have HB1 : Hid (Below w.heap.size w w1) := below_after HB0.out hb1
    have HX1 : Hid (ItAt w1 (w.heap.size + 1) x) := HXB.out.kept (hb1.block _ HXB.out.lt)
    have HL1 : Hid (LBox w1 w.heap.size (.slice px n cap)) := HLB.out.below hb1
    clear hp hb1 h0 HNEW HXB HLB
    go_wp2_with fail
    refine (acts_any _).mono ?_
    rintro e w2 ⟨rfl, hb2⟩
    have HP2 : Hid (PrAt w2 W0.heap.size pb av bv ps L (List.replicate 8 0) (G.map B0)) := HP1.out.below hb2
    have HX2 : Hid (ItAt w2 (w.heap.size + 1) x) := HX1.out.kept (hb2.block _ HX1.out.lt)
    have HL2 : Hid (LBox w2 w.heap.size (.slice px n cap)) := HL1.out.below hb2
    have HB2 : Hid (Below w.heap.size w w2) := below_after HB1.out hb2
    clear hb2 HP1 HX1 HL1 HB1
    obtain ⟨x0, x1, x2, x3, x4⟩ := HX2.out.cell
    cases hxo : x.ok with
    | false =>
      have HXO : Hid (x.ok = false) := hxo
      have HBAD := do_bad (x := x) (.pointer (some ⟨pb, 0, none⟩)) w2 hxo
      clear hxo
      go_wp2_with fail
      refine HBAD.mono ?_
      rintro e w3 ⟨rfl, hb3⟩
      have HB3 : Hid (Below w.heap.size w (w3.alloc (.cells #[.int .i64 0, .int .i64 0, .int .i64 0, .int .i64 0, .int .i64 0] 25))) := below_alloc_ (below_after HB2.out hb3) _
      have HX3 : Hid (ItAt (w3.alloc (.cells #[.int .i64 0, .int .i64 0, .int .i64 0, .int .i64 0, .int .i64 0] 25)) (w.heap.size + 1) x) := (HX2.out.kept (hb3.block _ HX2.out.lt)).alloc _
      have HY3 : Hid (ItAt (w3.alloc (.cells #[.int .i64 0, .int .i64 0, .int .i64 0, .int .i64 0, .int .i64 0] 25)) w3.heap.size ⟨0, 0, 0, 0, 0⟩) := new_block_ rfl
      clear hb3 x0 x1 x2 x3 x4
      go_wp2_with fail
      refine (tell_errno 2 _ (HLD.out.below HB3.out)).mono ?_
      rintro e w4 ⟨rfl, hb4⟩
      have HB4 : Hid (Below w.heap.size w w4) := below_after HB3.out hb4
      obtain ⟨x0, x1, x2, x3, x4⟩ := (HX3.out.kept (hb4.block _ HX3.out.lt) : ItAt w4 (w.heap.size + 1) x).cell
      obtain ⟨y0, y1, y2, y3, y4⟩ := (HY3.out.kept (hb4.block _ HY3.out.lt) : ItAt w4 w3.heap.size ⟨0, 0, 0, 0, 0⟩).cell
      simp only at y0 y1 y2 y3 y4
      clear hb4
      go_wp2_with (go_at_call 9; refine (check_no _ _ _ _ _ _ HXO.out).mono ?_; rintro e w5 ⟨rfl, rfl⟩)
      go_ret
      exact ⟨rfl, below_alloc_ HB4.out _⟩
    | true =>
      have HDO := do_any HP2.out hxo HGD.out
      obtain ⟨⟨⟨ri, y, rC, rB⟩, res⟩, hr⟩ : ∃ r, doA L 100 ⟨0, x, List.replicate 8 0, G.map B0⟩ = r := ⟨_, rfl⟩
      have hfl := doA_fields (L := L) 100 ⟨0, x, List.replicate 8 0, G.map B0⟩
      rw [hr] at HDO hfl
      have HFL : Hid (FieldsA L x y) := hfl
      clear hr hfl hxo
      obtain ⟨ya, yl, yf, yb, ym⟩ := y
      obtain ⟨rfl, rfl, tm, tb, tf⟩ := HFL.out
      have HT : Hid (ToldA L 3 x.m ym ∧ ToldA L 4 x.b yb ∧ ToldA L 5 x.f yf) := ⟨tm, tb, tf⟩
      clear HFL tm tb tf
      cases res with
      | on =>
        have HD2 : Calls Tryd.prog 7 #[.pointer (some ⟨pb, 0, none⟩), .agg x.cells] w2 fun e w' => e = .returned (.tuple #[.agg #[.int .i64 x.a, .int .i64 x.l, .int .i64 yf, .int .i64 yb, .int .i64 ym], .bool true, .nilIface]) ∧ PrAt w' W0.heap.size pb av bv ps L rC rB ∧ Ot (fun k => k = pb ∨ k ∈ ps) w2 w' := HDO
        clear HDO
        go_wp2_with fail
        refine HD2.mono ?_
        rintro e w3 ⟨rfl, hp3, ho3⟩
        have HB3 : Hid (Below w.heap.size w (w3.alloc (.cells #[.int .i64 x.a, .int .i64 x.l, .int .i64 yf, .int .i64 yb, .int .i64 ym] 25))) := below_alloc_ (HB2.out.trans (do_below HP2.out ho3 HB0.out.size HB2.out.size)) _
        have HX3 : Hid (ItAt (w3.alloc (.cells #[.int .i64 x.a, .int .i64 x.l, .int .i64 yf, .int .i64 yb, .int .i64 ym] 25)) (w.heap.size + 1) x) := (it_does HX2.out HP2.out ho3).alloc _
        have HL3 : Hid (LBox (w3.alloc (.cells #[.int .i64 x.a, .int .i64 x.l, .int .i64 yf, .int .i64 yb, .int .i64 ym] 25)) w.heap.size (.slice px n cap)) := (lb_does HL2.out HP2.out ho3).below (below_alloc_ (Below.refl _ _) _)
        have HY3 : Hid (ItAt (w3.alloc (.cells #[.int .i64 x.a, .int .i64 x.l, .int .i64 yf, .int .i64 yb, .int .i64 ym] 25)) w3.heap.size ⟨x.a, x.l, yf, yb, ym⟩) := new_block_ rfl
        clear hp3 ho3 x0 x1 x2 x3 x4 HD2 HX2 HL2 HP2 HB2
        obtain ⟨w4, HW4⟩ : ∃ w4, Hid (w3.alloc (.cells #[.int .i64 x.a, .int .i64 x.l, .int .i64 yf, .int .i64 yb, .int .i64 ym] 25) = w4) := ⟨_, rfl⟩
        have HB4 : Hid (Below w.heap.size w w4) := by rw [← HW4.out]; exact HB3.out
        have HX4 : Hid (ItAt w4 (w.heap.size + 1) x) := by rw [← HW4.out]; exact HX3.out
        have HL4 : Hid (LBox w4 w.heap.size (.slice px n cap)) := by rw [← HW4.out]; exact HL3.out
        have HY4 : Hid (ItAt w4 w3.heap.size ⟨x.a, x.l, yf, yb, ym⟩) := by rw [← HW4.out]; exact HY3.out
        clear HX3 HL3 HY3 HB3
        have HTM : Hid (∀ kind was is, ToldA L kind was is → Calls Tryd.prog 10 #[.int .i64 kind, .int .i64 was, .int .i64 is, .pointer (some ⟨w.heap.size, 0, none⟩)] w4 fun e w' => e = .returned (.bool true) ∧ w' = w4) := by
          intro kind was is h
          exact told_yes px cap w.heap.size L kind was is w4 (by rw [HN.out]; exact HL4.out) (HA.out.below HB4.out) HNL.out h
        obtain ⟨x0, x1, x2, x3, x4⟩ := HX4.out.cell
        obtain ⟨y0, y1, y2, y3, y4⟩ := HY4.out.cell
        simp only at y0 y1 y2 y3 y4
        rw [← HW4.out] at x0 x1 x2 x3 x4 y0 y1 y2 y3 y4
        rw [← HW4.out] at HTM
        go_wp2_with fail
        refine (HTM.out 3 x.m ym HT.out.1).mono ?_
        rintro e w5 ⟨rfl, rfl⟩
        go_wp2_with fail
        refine (HTM.out 4 x.b yb HT.out.2.1).mono ?_
        rintro e w5 ⟨rfl, rfl⟩
        go_wp2_with fail
        refine (HTM.out 5 x.f yf HT.out.2.2).mono ?_
        rintro e w5 ⟨rfl, rfl⟩
        go_wp2
        go_ret
        exact ⟨rfl, by rw [HW4.out]; exact HB4.out⟩
      | off =>
        have HD2 : Calls Tryd.prog 7 #[.pointer (some ⟨pb, 0, none⟩), .agg x.cells] w2 fun e w' => e = .returned (.tuple #[.agg #[.int .i64 x.a, .int .i64 x.l, .int .i64 yf, .int .i64 yb, .int .i64 ym], .bool false, .nilIface]) ∧ PrAt w' W0.heap.size pb av bv ps L rC rB ∧ Ot (fun k => k = pb ∨ k ∈ ps) w2 w' := HDO
        clear HDO
        go_wp2_with fail
        refine HD2.mono ?_
        rintro e w3 ⟨rfl, hp3, ho3⟩
        have HB3 : Hid (Below w.heap.size w (w3.alloc (.cells #[.int .i64 x.a, .int .i64 x.l, .int .i64 yf, .int .i64 yb, .int .i64 ym] 25))) := below_alloc_ (HB2.out.trans (do_below HP2.out ho3 HB0.out.size HB2.out.size)) _
        have HX3 : Hid (ItAt (w3.alloc (.cells #[.int .i64 x.a, .int .i64 x.l, .int .i64 yf, .int .i64 yb, .int .i64 ym] 25)) (w.heap.size + 1) x) := (it_does HX2.out HP2.out ho3).alloc _
        have HL3 : Hid (LBox (w3.alloc (.cells #[.int .i64 x.a, .int .i64 x.l, .int .i64 yf, .int .i64 yb, .int .i64 ym] 25)) w.heap.size (.slice px n cap)) := (lb_does HL2.out HP2.out ho3).below (below_alloc_ (Below.refl _ _) _)
        have HY3 : Hid (ItAt (w3.alloc (.cells #[.int .i64 x.a, .int .i64 x.l, .int .i64 yf, .int .i64 yb, .int .i64 ym] 25)) w3.heap.size ⟨x.a, x.l, yf, yb, ym⟩) := new_block_ rfl
        clear hp3 ho3 x0 x1 x2 x3 x4 HD2 HX2 HL2 HP2 HB2
        obtain ⟨w4, HW4⟩ : ∃ w4, Hid (w3.alloc (.cells #[.int .i64 x.a, .int .i64 x.l, .int .i64 yf, .int .i64 yb, .int .i64 ym] 25) = w4) := ⟨_, rfl⟩
        have HB4 : Hid (Below w.heap.size w w4) := by rw [← HW4.out]; exact HB3.out
        have HX4 : Hid (ItAt w4 (w.heap.size + 1) x) := by rw [← HW4.out]; exact HX3.out
        have HL4 : Hid (LBox w4 w.heap.size (.slice px n cap)) := by rw [← HW4.out]; exact HL3.out
        have HY4 : Hid (ItAt w4 w3.heap.size ⟨x.a, x.l, yf, yb, ym⟩) := by rw [← HW4.out]; exact HY3.out
        clear HX3 HL3 HY3 HB3
        have HTM : Hid (∀ kind was is, ToldA L kind was is → Calls Tryd.prog 10 #[.int .i64 kind, .int .i64 was, .int .i64 is, .pointer (some ⟨w.heap.size, 0, none⟩)] w4 fun e w' => e = .returned (.bool true) ∧ w' = w4) := by
          intro kind was is h
          exact told_yes px cap w.heap.size L kind was is w4 (by rw [HN.out]; exact HL4.out) (HA.out.below HB4.out) HNL.out h
        obtain ⟨x0, x1, x2, x3, x4⟩ := HX4.out.cell
        obtain ⟨y0, y1, y2, y3, y4⟩ := HY4.out.cell
        simp only at y0 y1 y2 y3 y4
        rw [← HW4.out] at x0 x1 x2 x3 x4 y0 y1 y2 y3 y4
        rw [← HW4.out] at HTM
        go_wp2_with fail
        refine (HTM.out 3 x.m ym HT.out.1).mono ?_
        rintro e w5 ⟨rfl, rfl⟩
        go_wp2_with fail
        refine (HTM.out 4 x.b yb HT.out.2.1).mono ?_
        rintro e w5 ⟨rfl, rfl⟩
        go_wp2_with fail
        refine (HTM.out 5 x.f yf HT.out.2.2).mono ?_
        rintro e w5 ⟨rfl, rfl⟩
        go_wp2
        go_ret
        exact ⟨rfl, by rw [HW4.out]; exact HB4.out⟩
      | cycle =>
        have HD2 : Calls Tryd.prog 7 #[.pointer (some ⟨pb, 0, none⟩), .agg x.cells] w2 fun e w' => e = .returned (.tuple #[.agg #[.int .i64 x.a, .int .i64 x.l, .int .i64 yf, .int .i64 yb, .int .i64 ym], .bool false, .iface 34 (.int .i64 11)]) ∧ PrAt w' W0.heap.size pb av bv ps L rC rB ∧ Ot (fun k => k = pb ∨ k ∈ ps) w2 w' := HDO
        clear HDO
        go_wp2_with fail
        refine HD2.mono ?_
        rintro e w3 ⟨rfl, hp3, ho3⟩
        have HB3 : Hid (Below w.heap.size w (w3.alloc (.cells #[.int .i64 x.a, .int .i64 x.l, .int .i64 yf, .int .i64 yb, .int .i64 ym] 25))) := below_alloc_ (HB2.out.trans (do_below HP2.out ho3 HB0.out.size HB2.out.size)) _
        have HX3 : Hid (ItAt (w3.alloc (.cells #[.int .i64 x.a, .int .i64 x.l, .int .i64 yf, .int .i64 yb, .int .i64 ym] 25)) (w.heap.size + 1) x) := (it_does HX2.out HP2.out ho3).alloc _
        have HL3 : Hid (LBox (w3.alloc (.cells #[.int .i64 x.a, .int .i64 x.l, .int .i64 yf, .int .i64 yb, .int .i64 ym] 25)) w.heap.size (.slice px n cap)) := (lb_does HL2.out HP2.out ho3).below (below_alloc_ (Below.refl _ _) _)
        have HY3 : Hid (ItAt (w3.alloc (.cells #[.int .i64 x.a, .int .i64 x.l, .int .i64 yf, .int .i64 yb, .int .i64 ym] 25)) w3.heap.size ⟨x.a, x.l, yf, yb, ym⟩) := new_block_ rfl
        clear hp3 ho3 x0 x1 x2 x3 x4 HD2 HX2 HL2 HP2 HB2
        go_wp2_with fail
        refine (tell_errno 11 _ (HLD.out.below HB3.out)).mono ?_
        rintro e w4 ⟨rfl, hb4⟩
        have HB4 : Hid (Below w.heap.size w w4) := below_after HB3.out hb4
        have HX4 : Hid (ItAt w4 (w.heap.size + 1) x) := HX3.out.kept (hb4.block _ HX3.out.lt)
        have HL4 : Hid (LBox w4 w.heap.size (.slice px n cap)) := HL3.out.below hb4
        have HY4 : Hid (ItAt w4 w3.heap.size ⟨x.a, x.l, yf, yb, ym⟩) := HY3.out.kept (hb4.block _ HY3.out.lt)
        clear hb4 HX3 HL3 HY3 HB3
        have HTM : Hid (∀ kind was is, ToldA L kind was is → Calls Tryd.prog 10 #[.int .i64 kind, .int .i64 was, .int .i64 is, .pointer (some ⟨w.heap.size, 0, none⟩)] w4 fun e w' => e = .returned (.bool true) ∧ w' = w4) := by
          intro kind was is h
          exact told_yes px cap w.heap.size L kind was is w4 (by rw [HN.out]; exact HL4.out) (HA.out.below HB4.out) HNL.out h
        obtain ⟨x0, x1, x2, x3, x4⟩ := HX4.out.cell
        obtain ⟨y0, y1, y2, y3, y4⟩ := HY4.out.cell
        simp only at y0 y1 y2 y3 y4
        go_wp2_with fail
        refine (HTM.out 3 x.m ym HT.out.1).mono ?_
        rintro e w5 ⟨rfl, rfl⟩
        go_wp2_with fail
        refine (HTM.out 4 x.b yb HT.out.2.1).mono ?_
        rintro e w5 ⟨rfl, rfl⟩
        go_wp2_with fail
        refine (HTM.out 5 x.f yf HT.out.2.2).mono ?_
        rintro e w5 ⟨rfl, rfl⟩
        go_wp2
        go_ret
        exact ⟨rfl, HB4.out⟩
  · obtain ⟨t, u, rfl⟩ := hv.iface h0
    have HB1 : Hid (Below w.heap.size w w1) := below_after HB0.out hb1
    clear hv hb1 HNEW
    go_wp2_with fail
    refine (acts_any _).mono ?_
    rintro e w2 ⟨rfl, hb2⟩
    have HB2 : Hid (Below w.heap.size w w2) := below_after HB1.out hb2
    clear hb2
    go_wp2_with fail
    refine (acts_any _).mono ?_
    rintro e w3 ⟨rfl, hb3⟩
    have HB3 : Hid (Below w.heap.size w w3) := below_after HB2.out hb3
    clear hb3
    go_wp2
    go_ret
    exact ⟨rfl, HB3.out⟩
end Go.Proofs.YtnoppfgikanebaaDoor
