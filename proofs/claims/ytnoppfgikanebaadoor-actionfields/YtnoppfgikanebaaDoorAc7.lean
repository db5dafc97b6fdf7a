/-
  Program.step at any action, Program.Do: what it does with a packet, action by action. Conditions: a program that may be.
-/
import Derived.Test.YtnoppfgikanebaaDoorAc6
namespace Go.Proofs.YtnoppfgikanebaaDoor
open Go.RowKit Go.Extern.Stop Go.Stop Go.Extern

theorem step_any {w : World} {H0 pb xb : Nat} {av bv : Value} {ps : List Nat} {L : List Ac} {s : AS} {a : Ac} (h : PrAt w H0 pb av bv ps L s.C s.B) (hx : ItAt w xb s.x) (hxo : s.x.ok = true) (hf : flawA L.length s.B.length a = 0) (h8 : s.B.length ≤ 8) (h1 : a.k ≠ 1) (h2 : a.k ≠ 2) : StepG w H0 pb xb av bv ps L s a := by
  obtain ⟨⟨⟨k0, k1⟩, _, _⟩, a0, a1, b0, b1⟩ := flawA_zero hf
  by_cases e3 : a.k = 3
  · exact step_3 h hx e3
  by_cases e4 : a.k = 4
  · exact step_4 h hx e4
  by_cases e5 : a.k = 5
  · exact step_5 h hx e5
  by_cases e6 : a.k = 6
  · rw [e6] at a1
    exact step_6 h hx e6 a.a.toNat (Int.toNat_of_nonneg a0).symm (by have : topA L.length s.B.length 6 = 7 := rfl; omega)
  by_cases e7 : a.k = 7
  · exact step_7 h hx e7 a0
  by_cases e8 : a.k = 8
  · exact step_8 h hx e8 b0
  by_cases e9 : a.k = 9
  · rw [e9] at a1
    exact step_9 h hx hxo e9 a.a.toNat (Int.toNat_of_nonneg a0).symm (by have : topA L.length s.B.length 9 = (s.B.length : Int) - 1 := rfl; omega) h8 b0
  · exact step_10 h hx (by omega) b0

/-- How it ends: on its way, thrown away, or round and round. -/
inductive Res where
  | on
  | off
  | cycle
def nilA : Ac := ⟨0, 0, 0⟩
def doA (L : List Ac) : Nat → AS → AS × Res
  | 0, s => if s.i < L.length then (s, .cycle) else (s, .on)
  | f + 1, s => if s.i < L.length then (if (L.getD s.i nilA).k = 1 then (s, .on) else if (L.getD s.i nilA).k = 2 then (s, .off) else doA L f (stepA (L.getD s.i nilA) s)) else (s, .on)
theorem stepA_ok {n m : Nat} {a : Ac} {s : AS} (hf : flawA n m a = 0) (hx : s.x.ok = true) : (stepA a s).x.ok = true := by
  obtain ⟨⟨⟨k0, k1⟩, _, _⟩, a0, a1, b0, b1⟩ := flawA_zero hf
  simp only [It.ok, Bool.and_eq_true, wth_iff] at hx
  unfold stepA
  have key : ∀ x : It, (0 ≤ x.a ∧ x.a ≤ 1000000000) → (1 ≤ x.l ∧ x.l ≤ 10000) → (0 ≤ x.f ∧ x.f ≤ 15) → (0 ≤ x.b ∧ x.b ≤ 7) → (0 ≤ x.m ∧ x.m ≤ 255) → x.ok = true := by
    intro x g1 g2 g3 g4 g5
    simp only [It.ok, Bool.and_eq_true, wth_iff]
    exact ⟨⟨⟨⟨g1, g2⟩, g3⟩, g4⟩, g5⟩
  obtain ⟨⟨⟨⟨g1, g2⟩, g3⟩, g4⟩, g5⟩ := hx
  split
  · rename_i e; rw [e] at a1; exact key _ g1 g2 g3 g4 ⟨a0, a1⟩
  split
  · rename_i e; rw [e] at a1; exact key _ g1 g2 g3 ⟨a0, a1⟩ g5
  split
  · rename_i e; rw [e] at a1; exact key _ g1 g2 ⟨a0, a1⟩ g4 g5
  repeat' split
  all_goals exact key _ g1 g2 g3 g4 g5
theorem stepA_len {a : Ac} {s : AS} : (stepA a s).B.length = s.B.length := by
  unfold stepA
  repeat' split
  all_goals first | rfl | simp
theorem getD_at {L : List Ac} {i : Nat} (h : i < L.length) : L[i]? = some (L.getD i nilA) := by
  rw [List.getD_eq_getElem?_getD, List.getElem?_eq_getElem h]
  rfl
theorem PrAt.act {w : World} {H0 pb : Nat} {av bv : Value} {ps : List Nat} {L : List Ac} {C : List Int} {B : List Bs} (h : PrAt w H0 pb av bv ps L C B) {i : Nat} (hi : i < L.length) : ∃ b off cap, av = .slice (some ⟨b, off, none⟩) L.length cap ∧ b < w.heap.size ∧ w.cell? ⟨b, off + i * 3, none⟩ = some (.int .i64 (L.getD i nilA).k) ∧ w.cell? ⟨b, off + i * 3 + 1, none⟩ = some (.int .i64 (L.getD i nilA).a) ∧ w.cell? ⟨b, off + i * 3 + 2, none⟩ = some (.int .i64 (L.getD i nilA).b) := by
  obtain ⟨b, off, cap, e, _, _, hb, hc⟩ := h.acts.some (by omega)
  have k : ∀ j, j < 3 → ∀ u, (L.getD i nilA).cells[j]? = some u → w.cell? ⟨b, off + i * 3 + j, none⟩ = some u := by
    intro j hj u hu
    rw [Nat.add_assoc]
    exact hc _ _ ((flt_at Ac.cells 3 Ac.cells_len (getD_at hi) hj).trans hu)
  exact ⟨b, off, cap, e, hb, k 0 (by omega) _ rfl, k 1 (by omega) _ rfl, k 2 (by omega) _ rfl⟩
def resB : Res → Bool
  | .on => true
  | _ => false
def resE : Res → Value
  | .cycle => .iface 34 (.int .i64 11)
  | _ => .nilIface
/-- What Do leaves. -/
def DoP (w : World) (H0 pb : Nat) (av bv : Value) (ps : List Nat) (L : List Ac) (r : AS × Res) (e : Ending) (w' : World) : Prop := e = .returned (.tuple #[.agg r.1.x.cells, .bool (resB r.2), resE r.2]) ∧ PrAt w' H0 pb av bv ps L r.1.C r.1.B ∧ Ot (fun k => k = pb ∨ k ∈ ps) w w'
theorem it_new2 (w : World) (o : Obj) (x : It) : ItAt ((w.alloc o).alloc (.cells x.cells 25)) (w.heap.size + 1) x := new_block_ (by simp)
theorem sizeItem : (Tryd.prog.info? 25).map (·.size) = some 5 := by kernel_rfl
theorem load_item {w : World} {b : Nat} {x : It} (h : ItAt w b x) : (loadVar 25 ⟨b, 0, none⟩).run Tryd.prog w = .ok (.agg x.cells) w :=
  run_loadVar_row w b 25 25 _ (0, 0) _ h Tryd.underlying25 rfl sizeItem
theorem results_item {fn : Func} {p u u2 : Tmp} {ty : TypeId} (h : fn.results = #[.cell p ty, .tmp u, .tmp u2]) (tmps : Array Value) (P : Program) (w : World) :
    (results fn tmps).run P w =
      ((asAddr (tmps.getD p undef)).run P w).andThen fun a w₁ => ((loadVar ty a).run P w₁).andThen fun v w₂ => .ok (.tuple #[v, tmps.getD u undef, tmps.getD u2 undef]) w₂ := by
  simp only [results, h]
  simp [Sem.run_bind, Result.andThen]
theorem ret_item {fn : Func} {p u u2 : Tmp} (h : fn.results = #[.cell p 25, .tmp u, .tmp u2]) {tmps : Array Value} {w : World} {r : Nat} {x : It} {v1 v2 : Value} (hp : tmps.getD p undef = .pointer (some ⟨r, 0, none⟩)) (hx : ItAt w r x) (h1 : tmps.getD u undef = v1) (h2 : tmps.getD u2 undef = v2) :
    (results fn tmps).run Tryd.prog w = .ok (.tuple #[.agg x.cells, v1, v2]) w := by
  rw [results_item h, hp, h1, h2]
  simp [asAddr, Result.andThen, load_item hx]
def set5 (w : World) (b : Nat) (x : It) : World := ((((w.setCell ⟨b, 0, none⟩ (.int .i64 x.a)).setCell ⟨b, 1, none⟩ (.int .i64 x.l)).setCell ⟨b, 2, none⟩ (.int .i64 x.f)).setCell ⟨b, 3, none⟩ (.int .i64 x.b)).setCell ⟨b, 4, none⟩ (.int .i64 x.m)
theorem ItAt.five {w : World} {b : Nat} {y : It} (h : ItAt w b y) (x : It) : ItAt (set5 w b x) b x := by
  have h1 : ItAt _ b { y with a := x.a } := h.set 0 (.int .i64 x.a) rfl
  have h2 : ItAt _ b { y with a := x.a, l := x.l } := h1.set 1 (.int .i64 x.l) rfl
  have h3 : ItAt _ b { y with a := x.a, l := x.l, f := x.f } := h2.set 2 (.int .i64 x.f) rfl
  have h4 : ItAt _ b { y with a := x.a, l := x.l, f := x.f, b := x.b } := h3.set 3 (.int .i64 x.b) rfl
  exact h4.set 4 (.int .i64 x.m) rfl
theorem PrAt.five {w : World} {H0 pb : Nat} {av bv : Value} {ps : List Nat} {L : List Ac} {C : List Int} {B : List Bs} (h : PrAt w H0 pb av bv ps L C B) {b : Nat} {y : It} (hy : ItAt w b y) (x : It) : PrAt (set5 w b x) H0 pb av bv ps L C B := by
  have h1 : ItAt _ b { y with a := x.a } := hy.set 0 (.int .i64 x.a) rfl
  have h2 : ItAt _ b { y with a := x.a, l := x.l } := h1.set 1 (.int .i64 x.l) rfl
  have h3 : ItAt _ b { y with a := x.a, l := x.l, f := x.f } := h2.set 2 (.int .i64 x.f) rfl
  have h4 : ItAt _ b { y with a := x.a, l := x.l, f := x.f, b := x.b } := h3.set 3 (.int .i64 x.b) rfl
  exact ((((h.setX hy _ _).setX h1 _ _).setX h2 _ _).setX h3 _ _).setX h4 _ _
theorem ot_five {S : Nat → Prop} {a w : World} (h : Ot S a w) {b : Nat} (hb : a.heap.size ≤ b) (x : It) : Ot S a (set5 w b x) :=
  ((((h.setCell (Or.inr hb) _).setCell (Or.inr hb) _).setCell (Or.inr hb) _).setCell (Or.inr hb) _).setCell (Or.inr hb) _
set_option maxRecDepth 100000 in
set_option maxHeartbeats 4000000 in
theorem do_bad {x : It} (p : Value) (w : World) (hx : x.ok = false) :
    Calls Tryd.prog 7 #[p, .agg x.cells] w fun e w' => e = .returned (.tuple #[.agg #[.int .i64 0, .int .i64 0, .int .i64 0, .int .i64 0, .int .i64 0], .bool false, .iface 34 (.int .i64 2)]) ∧ Below w.heap.size w w' := by
  obtain ⟨xa, xl, xf, xb, xm⟩ := x
  have HX : Hid (It.ok ⟨xa, xl, xf, xb, xm⟩ = false) := hx
  clear hx
  unfold It.cells
  go_enter Tryd.func7, Tryd.ntmps7
  go_wp2_with (go_at_call 9; refine (check_no _ _ _ _ _ _ HX.out).mono ?_; rintro e w' ⟨rfl, rfl⟩)
  (try simp only [Exit.inBlock, Exit.then])
  refine bodyPost_ret (v := .tuple #[.agg #[.int .i64 0, .int .i64 0, .int .i64 0, .int .i64 0, .int .i64 0], .bool false, .iface 34 (.int .i64 2)]) ?_ rfl ⟨rfl, ?_⟩
  · refine ret_item (x := ⟨0, 0, 0, 0, 0⟩) (r := w.heap.size + 1) rfl rfl ?_ rfl rfl
    exact ItAt.alloc (it_new2 w _ ⟨0, 0, 0, 0, 0⟩) _
  · exact below_alloc_ (below_alloc_ (below_alloc_ (Below.refl _ _) _) _) _
theorem doA_end {L : List Ac} {s : AS} (h : ¬ s.i < L.length) (f : Nat) : doA L f s = (s, .on) := by
  cases f with
  | zero => unfold doA; rw [if_neg h]
  | succ f => unfold doA; rw [if_neg h]
theorem doA_cycle {L : List Ac} {s : AS} (h : s.i < L.length) : doA L 0 s = (s, .cycle) := by unfold doA; rw [if_pos h]
theorem doA_on {L : List Ac} {s : AS} (h : s.i < L.length) (h1 : (L.getD s.i nilA).k = 1) (f : Nat) : doA L (f + 1) s = (s, .on) := by unfold doA; rw [if_pos h, if_pos h1]
theorem doA_off {L : List Ac} {s : AS} (h : s.i < L.length) (h1 : (L.getD s.i nilA).k = 2) (f : Nat) : doA L (f + 1) s = (s, .off) := by unfold doA; rw [if_pos h, if_neg (by omega), if_pos h1]
theorem doA_step {L : List Ac} {s : AS} (h : s.i < L.length) (h1 : (L.getD s.i nilA).k ≠ 1) (h2 : (L.getD s.i nilA).k ≠ 2) (f : Nat) : doA L (f + 1) s = doA L f (stepA (L.getD s.i nilA) s) := by
  conv => lhs; unfold doA
  rw [if_pos h, if_neg h1, if_neg h2]
set_option maxRecDepth 100000 in
set_option maxHeartbeats 8000000 in
theorem do_any {w : World} {H0 pb : Nat} {av bv : Value} {ps : List Nat} {L : List Ac} {x : It} {C : List Int} {B : List Bs} (h : PrAt w H0 pb av bv ps L C B) (hx : x.ok = true) (hg : GoodA L B.length) :
    Calls Tryd.prog 7 #[.pointer (some ⟨pb, 0, none⟩), .agg x.cells] w (DoP w H0 pb av bv ps L (doA L 100 ⟨0, x, C, B⟩)) := by
  obtain ⟨r, HR⟩ : ∃ r, Hid (doA L 100 ⟨0, x, C, B⟩ = r) := ⟨_, rfl⟩
  rw [HR.out]
  have HG : Hid (GoodA L B.length) := hg
  have HX : Hid (x.ok = true) := hx
  have HP : Hid (PrAt w H0 pb av bv ps L C B) := h
  obtain ⟨ax, ac, rfl⟩ : ∃ ax ac, av = .slice ax L.length ac := by
    rcases h.acts.form with ⟨e, h0, _⟩ | ⟨b, off, cap, e, _⟩
    · exact ⟨none, 0, by rw [e, h0]⟩
    · exact ⟨_, _, e⟩
  have hl50 := hg.len
  obtain ⟨n, HN⟩ : ∃ n, Hid (L.length = n) := ⟨_, rfl⟩
  rw [HN.out] at hl50
  have hpb := h.lt
  clear h hx hg
  rw [HN.out]
  unfold It.cells
  go_enter Tryd.func7, Tryd.ntmps7
  go_wp2_with (go_at_call 9; refine (check_yes _ _ _ _ _ _ HX.out).mono ?_; rintro e w' ⟨rfl, rfl⟩)
  go_loopw [8, 9] (fun i d wr => ∃ (s : AS) (k : Nat), i = .int .i64 s.i ∧ d = .int .i64 k ∧ k ≤ 100 ∧ Hid (PrAt wr H0 pb (.slice ax n ac) bv ps L s.C s.B) ∧ Hid (ItAt wr w.heap.size s.x) ∧ Hid (ItAt wr (w.heap.size + 1) ⟨0, 0, 0, 0, 0⟩) ∧ Hid (Ot (fun q => q = pb ∨ q ∈ ps) w wr) ∧ Hid (s.x.ok = true) ∧ Hid (s.B.length = B.length) ∧ Hid (doA L (100 - k) s = r)) (fun _ d _ => 101 - (intOf d).toNat)
  case atStart =>
    refine ⟨⟨0, x, C, B⟩, 0, rfl, rfl, Nat.zero_le _, ?_, ?_, ?_, ?_, HX.out, rfl, HR.out⟩
    · have := ((HP.out.alloc (.cells #[.int .i64 x.a, .int .i64 x.l, .int .i64 x.f, .int .i64 x.b, .int .i64 x.m] 25)).alloc (.cells #[.int .i64 0, .int .i64 0, .int .i64 0, .int .i64 0, .int .i64 0] 25)).alloc (.cells #[.int .i64 x.a, .int .i64 x.l, .int .i64 x.f, .int .i64 x.b, .int .i64 x.m] 25)
      rw [HN.out] at this
      exact this
    · exact ItAt.alloc (ItAt.alloc (new_block_ rfl) _) _
    · exact ItAt.alloc (it_new2 w _ ⟨0, 0, 0, 0, 0⟩) _
    · exact ((ot_alloc _ _).alloc _).alloc _
  case round =>
    obtain ⟨⟨si, sx, sC, sB⟩, k, rfl, rfl, hk, HPR, HXR, HYR, HOR, HOX, HBL, HDO⟩ := hrel
    simp only at HPR HXR HOX HBL
    have c0 := (HPR.out.cell (i := 0) rfl).1
    obtain ⟨y0, y1, y2, y3, y4⟩ := HYR.out.cell
    have z0 := HYR.out.frozen 0
    have z1 := HYR.out.frozen 1
    have z2 := HYR.out.frozen 2
    have z3 := HYR.out.frozen 3
    have z4 := HYR.out.frozen 4
    obtain ⟨x0, x1, x2, x3, x4⟩ := HXR.out.cell
    have hpr := HPR.out.lt
    have hyr := HYR.out.lt
    have hxr := HXR.out.lt
    by_cases hlt : si < n
    · by_cases hk0 : k = 100
      · subst hk0
        have HRR : Hid (r = (⟨si, sx, sC, sB⟩, .cycle)) := HDO.out.symm.trans (doA_cycle (by rw [HN.out]; exact hlt))
        go_wp2
        (try simp only [Exit.inBlock, Exit.then])
        rw [HRR.out]
        refine bodyPost_ret (v := .tuple #[.agg sx.cells, .bool false, .iface 34 (.int .i64 11)]) ?_ rfl ⟨rfl, ?_, ?_⟩
        · exact ret_item (r := w.heap.size + 1) rfl rfl (HYR.out.five sx) rfl rfl
        · exact HPR.out.five HYR.out sx
        · exact ot_five HOR.out (by omega) sx
      · have hlt' : si < L.length := by rw [HN.out]; exact hlt
        obtain ⟨ab, aoff, acap, hav, hab, a0, a1, a2⟩ := HPR.out.act hlt'
        simp only [Value.slice.injEq] at hav
        obtain ⟨rfl, _, rfl⟩ := hav
        have HFL : Hid (flawA L.length sB.length (L.getD si nilA) = 0) := by
          show _ = (0 : Int)
          rw [HBL.out]
          exact HG.out.fine _ (List.mem_iff_getElem?.2 ⟨si, getD_at hlt'⟩)
        obtain ⟨f, hf⟩ : ∃ f, 100 - k = f + 1 := ⟨99 - k, by omega⟩
        have HF : Hid (100 - k = f + 1) := hf
        have HF2 : Hid (100 - (k + 1) = f) := by show _ = f; omega
        have HLT : Hid (si < L.length) := hlt'
        obtain ⟨a, HA⟩ : ∃ a, Hid (L.getD si nilA = a) := ⟨_, rfl⟩
        rw [HA.out] at a0 a1 a2 HFL
        clear hf hlt'
        by_cases e1 : a.k = 1
        · have HRR : Hid (r = (⟨si, sx, sC, sB⟩, .on)) := by
            show r = _
            rw [← HDO.out, HF.out]
            exact doA_on HLT.out (by simp only; rw [HA.out]; exact e1) f
          obtain ⟨ak, aa, ab'⟩ := a
          simp only at e1 a0 a1 a2
          subst e1
          go_wp2
          go_region
          all_goals
            go_wp2
            (try simp only [Exit.inBlock, Exit.then])
            rw [HRR.out]
            refine bodyPost_ret (v := .tuple #[.agg sx.cells, .bool true, .nilIface]) ?_ rfl ⟨rfl, ?_, ?_⟩
            · exact ret_item (r := w.heap.size + 1) rfl rfl (ItAt.alloc (HYR.out.five sx) _) rfl rfl
            · exact PrAt.drew (PrAt.alloc (HPR.out.five HYR.out sx) _)
            · exact Ot.drew ((ot_five HOR.out (by omega) sx).alloc _)
        · by_cases e2 : a.k = 2
          · have HRR : Hid (r = (⟨si, sx, sC, sB⟩, .off)) := by
              show r = _
              rw [← HDO.out, HF.out]
              exact doA_off HLT.out (by simp only; rw [HA.out]; exact e2) f
            obtain ⟨ak, aa, ab'⟩ := a
            simp only at e1 e2 a0 a1 a2
            subst e2
            go_wp2
            go_region
            all_goals
              go_wp2
              (try simp only [Exit.inBlock, Exit.then])
              rw [HRR.out]
              refine bodyPost_ret (v := .tuple #[.agg sx.cells, .bool false, .nilIface]) ?_ rfl ⟨rfl, ?_, ?_⟩
              · exact ret_item (r := w.heap.size + 1) rfl rfl (ItAt.alloc (HYR.out.five sx) _) rfl rfl
              · exact PrAt.drew (PrAt.alloc (HPR.out.five HYR.out sx) _)
              · exact Ot.drew ((ot_five HOR.out (by omega) sx).alloc _)
          · have HD2 : Hid (doA L f (stepA a ⟨si, sx, sC, sB⟩) = r) := by
              show _ = r
              rw [← HDO.out, HF.out, doA_step HLT.out (by simp only; rw [HA.out]; exact e1) (by simp only; rw [HA.out]; exact e2), HA.out]
            have HSX : Hid ((stepA a ⟨si, sx, sC, sB⟩).x.ok = true) := stepA_ok HFL.out HOX.out
            have HSB : Hid ((stepA a ⟨si, sx, sC, sB⟩).B.length = B.length) := stepA_len.trans HBL.out
            have H8 : Hid (sB.length ≤ 8) := by show _ ≤ 8; rw [HBL.out]; exact HG.out.few
            have hst := fun (W : World) (h1 : PrAt W H0 pb (.slice (some ⟨ab, aoff, none⟩) L.length ac) bv ps L sC sB) (h2 : ItAt W w.heap.size sx) => step_any (s := ⟨si, sx, sC, sB⟩) (a := a) h1 h2 HOX.out HFL.out H8.out e1 e2
            have HST : Hid (∀ W : World, PrAt W H0 pb (.slice (some ⟨ab, aoff, none⟩) L.length ac) bv ps L sC sB → ItAt W w.heap.size sx → StepG W H0 pb w.heap.size (.slice (some ⟨ab, aoff, none⟩) L.length ac) bv ps L ⟨si, sx, sC, sB⟩ a) := hst
            obtain ⟨s2, HS2⟩ : ∃ s2, Hid (stepA a ⟨si, sx, sC, sB⟩ = s2) := ⟨_, rfl⟩
            rw [HS2.out] at HD2 HSX HSB
            unfold StepG at HST
            rw [HS2.out, HN.out] at HST
            clear hst
            obtain ⟨ak, aa, ab'⟩ := a
            simp only at e1 e2 a0 a1 a2
            have e1' : (ak == 1) = false := by simpa using e1
            have e2' : (ak == 2) = false := by simpa using e2
            go_wp2_with (go_at_call 16; refine (HST.out _ (PrAt.alloc HPR.out _) (ItAt.alloc HXR.out _)).mono ?_; rintro e w2 ⟨rfl, hp2, hx2, ho2⟩)
            go_roundw
            case rel =>
              refine ⟨s2, k + 1, rfl, by go_num, by omega, hp2, hx2, ?_, ?_, HSX.out, HSB.out, by show doA L (100 - (k + 1)) s2 = r; rw [HF2.out]; exact HD2.out⟩
              · refine (HYR.out.alloc _).kept (ho2.block _ (HYR.out.alloc _).lt ?_)
                rintro (h | h | h)
                · exact noEqT HYR.out HPR.out.hd (by decide) h
                · obtain ⟨cur, hc⟩ := HPR.out.stat h
                  exact noEqT HYR.out hc (by decide) rfl
                · omega
              · refine (HOR.out.alloc _).trans' ho2 ?_
                rintro q (h | h | h) hq
                · exact Or.inl h
                · exact Or.inr h
                · omega
            case measure => simp [intOf]; omega
    · have HRR : Hid (r = (⟨si, sx, sC, sB⟩, .on)) := HDO.out.symm.trans (doA_end (by rw [HN.out]; exact hlt) _)
      go_wp2
      (try simp only [Exit.inBlock, Exit.then])
      rw [HRR.out]
      refine bodyPost_ret (v := .tuple #[.agg sx.cells, .bool true, .nilIface]) ?_ rfl ⟨rfl, ?_, ?_⟩
      · exact ret_item (r := w.heap.size + 1) rfl rfl (HYR.out.five sx) rfl rfl
      · exact HPR.out.five HYR.out sx
      · exact ot_five HOR.out (by omega) sx
end Go.Proofs.YtnoppfgikanebaaDoor
