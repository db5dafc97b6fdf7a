/-
  Program.step, kind by kind. Conditions: a program that may be, a packet that may be.
-/
import Derived.Test.YtnoppfgikanebaaDoorAc4
namespace Go.Proofs.YtnoppfgikanebaaDoor
open Go.RowKit Go.Extern.Stop Go.Stop Go.Extern

theorem flawA_zero {n m : Nat} {x : Ac} (h : flawA n m x = 0) : argA x ∧ rngA n m x := by
  unfold flawA at h
  split at h
  · split at h
    · exact ⟨by assumption, by assumption⟩
    · simp at h
  · simp at h
/-- What step leaves. -/
def StepP (w : World) (H0 pb xb : Nat) (av bv : Value) (ps : List Nat) (L : List Ac) (s' : AS) (e : Ending) (w' : World) : Prop := e = .returned (.int .i64 s'.i) ∧ PrAt w' H0 pb av bv ps L s'.C s'.B ∧ ItAt w' xb s'.x ∧ Ot (fun k => k = pb ∨ k ∈ ps ∨ k = xb) w w'
def StepG (w : World) (H0 pb xb : Nat) (av bv : Value) (ps : List Nat) (L : List Ac) (s : AS) (a : Ac) : Prop := Calls Tryd.prog 16 #[.pointer (some ⟨pb, 0, none⟩), .agg #[.int .i64 a.k, .int .i64 a.a, .int .i64 a.b], .pointer (some ⟨xb, 0, none⟩), .int .i64 ((s.i : Int) + 1)] w (StepP w H0 pb xb av bv ps L (stepA a s))
theorem ItAt.set {w : World} {xb : Nat} {x y : It} (h : ItAt w xb x) (i : Nat) (u : Value) (hy : x.cells.setIfInBounds i u = y.cells) : ItAt (w.setCell ⟨xb, i, none⟩ u) xb y := by
  unfold ItAt
  rw [heap_setCell_here h, hy]
theorem ItAt.alloc {w : World} {xb : Nat} {x : It} (h : ItAt w xb x) (o : Obj) : ItAt (w.alloc o) xb x := h.kept (Below.heap_alloc w o xb h.lt)
theorem ot_alloc {S : Nat → Prop} (w : World) (o : Obj) : Ot S w (w.alloc o) := (Ot.refl S w).alloc o
set_option maxRecDepth 100000 in
set_option maxHeartbeats 2000000 in
theorem step_3 {w : World} {H0 pb xb : Nat} {av bv : Value} {ps : List Nat} {L : List Ac} {s : AS} {a : Ac} (h : PrAt w H0 pb av bv ps L s.C s.B) (hx : ItAt w xb s.x) (hk : a.k = 3) : StepG w H0 pb xb av bv ps L s a := by
  have hst : stepA a s = { s with i := s.i + 1, x := { s.x with m := a.a } } := by simp [stepA, hk]
  unfold StepG
  rw [hst]
  obtain ⟨si, sx, sC, sB⟩ := s
  obtain ⟨ak, aa, ab⟩ := a
  simp only at hk h hx
  subst hk
  have hpb := h.lt
  have hxb := hx.lt
  have HP : Hid (PrAt w H0 pb av bv ps L sC sB) := h
  have HX : Hid (ItAt w xb sx) := hx
  obtain ⟨x0, x1, x2, x3, x4⟩ := hx.cell
  have xf := hx.frozen 4
  clear h hx hst
  simp only
  go_enter Tryd.func16, Tryd.ntmps16
  go_wp2
  go_ret
  exact ⟨by go_num, (HP.out.setX HX.out _ _).alloc _, (HX.out.set _ _ rfl).alloc _, ((Ot.refl _ _).setCell (Or.inl (Or.inr (Or.inr rfl))) _).alloc _⟩
set_option maxRecDepth 100000 in
set_option maxHeartbeats 2000000 in
theorem step_4 {w : World} {H0 pb xb : Nat} {av bv : Value} {ps : List Nat} {L : List Ac} {s : AS} {a : Ac} (h : PrAt w H0 pb av bv ps L s.C s.B) (hx : ItAt w xb s.x) (hk : a.k = 4) : StepG w H0 pb xb av bv ps L s a := by
  have hst : stepA a s = { s with i := s.i + 1, x := { s.x with b := a.a } } := by simp [stepA, hk]
  unfold StepG
  rw [hst]
  obtain ⟨si, sx, sC, sB⟩ := s
  obtain ⟨ak, aa, ab⟩ := a
  simp only at hk h hx
  subst hk
  have hpb := h.lt
  have hxb := hx.lt
  have HP : Hid (PrAt w H0 pb av bv ps L sC sB) := h
  have HX : Hid (ItAt w xb sx) := hx
  obtain ⟨x0, x1, x2, x3, x4⟩ := hx.cell
  have xf := hx.frozen 3
  clear h hx hst
  simp only
  go_enter Tryd.func16, Tryd.ntmps16
  go_wp2
  go_ret
  exact ⟨by go_num, (HP.out.setX HX.out _ _).alloc _, (HX.out.set _ _ rfl).alloc _, ((Ot.refl _ _).setCell (Or.inl (Or.inr (Or.inr rfl))) _).alloc _⟩
set_option maxRecDepth 100000 in
set_option maxHeartbeats 2000000 in
theorem step_5 {w : World} {H0 pb xb : Nat} {av bv : Value} {ps : List Nat} {L : List Ac} {s : AS} {a : Ac} (h : PrAt w H0 pb av bv ps L s.C s.B) (hx : ItAt w xb s.x) (hk : a.k = 5) : StepG w H0 pb xb av bv ps L s a := by
  have hst : stepA a s = { s with i := s.i + 1, x := { s.x with f := a.a } } := by simp [stepA, hk]
  unfold StepG
  rw [hst]
  obtain ⟨si, sx, sC, sB⟩ := s
  obtain ⟨ak, aa, ab⟩ := a
  simp only at hk h hx
  subst hk
  have hpb := h.lt
  have hxb := hx.lt
  have HP : Hid (PrAt w H0 pb av bv ps L sC sB) := h
  have HX : Hid (ItAt w xb sx) := hx
  obtain ⟨x0, x1, x2, x3, x4⟩ := hx.cell
  have xf := hx.frozen 2
  clear h hx hst
  simp only
  go_enter Tryd.func16, Tryd.ntmps16
  go_wp2
  go_ret
  exact ⟨by go_num, (HP.out.setX HX.out _ _).alloc _, (HX.out.set _ _ rfl).alloc _, ((Ot.refl _ _).setCell (Or.inl (Or.inr (Or.inr rfl))) _).alloc _⟩
set_option maxRecDepth 100000 in
set_option maxHeartbeats 2000000 in
theorem step_6 {w : World} {H0 pb xb : Nat} {av bv : Value} {ps : List Nat} {L : List Ac} {s : AS} {a : Ac} (h : PrAt w H0 pb av bv ps L s.C s.B) (hx : ItAt w xb s.x) (hk : a.k = 6) (j : Nat) (hja : a.a = j) (hj : j < 8) : StepG w H0 pb xb av bv ps L s a := by
  have hst : stepA a s = { s with i := s.i + 1, C := s.C.set j (wrap64 (s.C.getD j 0 + 1)) } := by simp [stepA, hk, hja]
  unfold StepG
  rw [hst]
  obtain ⟨si, sx, sC, sB⟩ := s
  obtain ⟨ak, aa, ab⟩ := a
  simp only at hk hja h hx
  subst hk hja
  have hpb := h.lt
  have hxb := hx.lt
  have HP : Hid (PrAt w H0 pb av bv ps L sC sB) := h
  have HX : Hid (ItAt w xb sx) := hx
  have cc := h.count hj
  have cf : w.frozen? ⟨pb, 2 + j, none⟩ = false := by simp [World.frozen?, h.hd]
  clear h hx hst
  simp only
  generalize hcv : sC.getD j 0 = cv at *
  go_enter Tryd.func16, Tryd.ntmps16
  go_wp2
  go_region
  all_goals
    go_wp2
    go_ret
    refine ⟨by go_num, ?_, ?_, ?_⟩
    · exact PrAt.drew (PrAt.alloc (HP.out.setC j _) _)
    · exact ItAt.alloc (HX.out.kept (Below.heap_setCell _ _ _ _ (noEqT HX.out HP.out.hd (by decide)))) _
    · exact Ot.drew (((Ot.refl _ _).setCell (Or.inl (Or.inl rfl)) _).alloc _)
set_option maxRecDepth 100000 in
set_option maxHeartbeats 2000000 in
theorem step_7 {w : World} {H0 pb xb : Nat} {av bv : Value} {ps : List Nat} {L : List Ac} {s : AS} {a : Ac} (h : PrAt w H0 pb av bv ps L s.C s.B) (hx : ItAt w xb s.x) (hk : a.k = 7) (ha : 0 ≤ a.a) : StepG w H0 pb xb av bv ps L s a := by
  have hst : stepA a s = { s with i := a.a.toNat } := by simp [stepA, hk]
  unfold StepG
  rw [hst]
  obtain ⟨si, sx, sC, sB⟩ := s
  obtain ⟨ak, aa, ab⟩ := a
  simp only at hk ha h hx
  subst hk
  have HP : Hid (PrAt w H0 pb av bv ps L sC sB) := h
  have HX : Hid (ItAt w xb sx) := hx
  have HA : Hid ((aa.toNat : Int) = aa) := Int.toNat_of_nonneg ha
  clear h hx hst
  simp only
  go_enter Tryd.func16, Tryd.ntmps16
  go_wp2
  go_ret
  exact ⟨by simp only; rw [HA.out]; rfl, HP.out.alloc _, HX.out.alloc _, ot_alloc _ _⟩
set_option maxRecDepth 100000 in
set_option maxHeartbeats 2000000 in
theorem step_8 {w : World} {H0 pb xb : Nat} {av bv : Value} {ps : List Nat} {L : List Ac} {s : AS} {a : Ac} (h : PrAt w H0 pb av bv ps L s.C s.B) (hx : ItAt w xb s.x) (hk : a.k = 8) (hb0 : 0 ≤ a.b) : StepG w H0 pb xb av bv ps L s a := by
  have hst : stepA a s = { s with i := if s.x.m = a.a then a.b.toNat else s.i + 1 } := by simp [stepA, hk]
  unfold StepG
  rw [hst]
  obtain ⟨si, sx, sC, sB⟩ := s
  obtain ⟨ak, aa, ab⟩ := a
  simp only at hk hb0 h hx
  subst hk
  have hpb := h.lt
  have hxb := hx.lt
  have HP : Hid (PrAt w H0 pb av bv ps L sC sB) := h
  have HX : Hid (ItAt w xb sx) := hx
  obtain ⟨x0, x1, x2, x3, x4⟩ := hx.cell
  have HB : Hid ((ab.toNat : Int) = ab) := Int.toNat_of_nonneg hb0
  clear h hx hst
  simp only
  by_cases hc : sx.m = aa
  · rw [if_pos hc]
    go_enter Tryd.func16, Tryd.ntmps16
    go_wp2
    go_quiet (fail)
    go_wp2
    go_ret
    exact ⟨by simp only; rw [HB.out]; rfl, by first | exact PrAt.drewN (HP.out.alloc _) _ | exact PrAt.drew (HP.out.alloc _) | exact HP.out.alloc _, HX.out.alloc _, by first | exact Ot.drewN (ot_alloc _ _) _ | exact Ot.drew (ot_alloc _ _) | exact ot_alloc _ _⟩
  · rw [if_neg hc]
    go_enter Tryd.func16, Tryd.ntmps16
    go_wp2
    go_quiet (fail)
    go_wp2
    go_ret
    exact ⟨by go_num, by first | exact PrAt.drewN (HP.out.alloc _) _ | exact PrAt.drew (HP.out.alloc _) | exact HP.out.alloc _, HX.out.alloc _, by first | exact Ot.drewN (ot_alloc _ _) _ | exact Ot.drew (ot_alloc _ _) | exact ot_alloc _ _⟩
set_option maxRecDepth 100000 in
set_option maxHeartbeats 2000000 in
theorem step_10 {w : World} {H0 pb xb : Nat} {av bv : Value} {ps : List Nat} {L : List Ac} {s : AS} {a : Ac} (h : PrAt w H0 pb av bv ps L s.C s.B) (hx : ItAt w xb s.x) (hk : a.k = 10) (hb0 : 0 ≤ a.b) : StepG w H0 pb xb av bv ps L s a := by
  have hst : stepA a s = { s with i := if a.a < s.x.l then a.b.toNat else s.i + 1 } := by simp [stepA, hk]
  unfold StepG
  rw [hst]
  obtain ⟨si, sx, sC, sB⟩ := s
  obtain ⟨ak, aa, ab⟩ := a
  simp only at hk hb0 h hx
  subst hk
  have hpb := h.lt
  have hxb := hx.lt
  have HP : Hid (PrAt w H0 pb av bv ps L sC sB) := h
  have HX : Hid (ItAt w xb sx) := hx
  obtain ⟨x0, x1, x2, x3, x4⟩ := hx.cell
  have HB : Hid ((ab.toNat : Int) = ab) := Int.toNat_of_nonneg hb0
  clear h hx hst
  simp only
  by_cases hc : aa < sx.l
  · rw [if_pos hc]
    go_enter Tryd.func16, Tryd.ntmps16
    go_wp2
    go_quiet (fail)
    go_wp2
    go_ret
    exact ⟨by simp only; rw [HB.out]; rfl, by first | exact PrAt.drewN (HP.out.alloc _) _ | exact PrAt.drew (HP.out.alloc _) | exact HP.out.alloc _, HX.out.alloc _, by first | exact Ot.drewN (ot_alloc _ _) _ | exact Ot.drew (ot_alloc _ _) | exact ot_alloc _ _⟩
  · rw [if_neg hc]
    go_enter Tryd.func16, Tryd.ntmps16
    go_wp2
    go_quiet (fail)
    go_wp2
    go_ret
    exact ⟨by go_num, by first | exact PrAt.drewN (HP.out.alloc _) _ | exact PrAt.drew (HP.out.alloc _) | exact HP.out.alloc _, HX.out.alloc _, by first | exact Ot.drewN (ot_alloc _ _) _ | exact Ot.drew (ot_alloc _ _) | exact ot_alloc _ _⟩
end Go.Proofs.YtnoppfgikanebaaDoor
