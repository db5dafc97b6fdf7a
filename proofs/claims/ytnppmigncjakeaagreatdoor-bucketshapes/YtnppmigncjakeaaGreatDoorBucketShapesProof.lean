/-
  The law BucketShapes holds: at every bucket and every packets the call returns true and each argument reads as it did; the variables errors.errorType and millraceref.Fine are as the program's text lays them (the card ties them).
-/
import Derived.Test.YtnppmigncjakeaaGreatDoorRowK
import Derived.Test.YtnppmigncjakeaaGreatDoorLwSh
import Derived.LaidMore
namespace Go.Proofs.YtnppmigncjakeaaGreatDoor
open Go.ChangeShapes Go.WideShapes Go.RowKit

theorem fineG : Tryz.prog.globalNamed Rows.bucketShapesRow.laid[1].1 = some 0 := by kernel_rfl
theorem fineT : (Tryz.prog.globals[0]?).map (·.type) = some 30 := by kernel_rfl
theorem cellsFault : Tryz.prog.cellsOf 30 = 2 := by kernel_rfl
theorem cellsErrno : Tryz.prog.cellsOf 28 = 1 := by kernel_rfl

set_option maxRecDepth 100000 in
/-- millraceref.Fine, out of a list that opens with it. -/
theorem fine_of_laid {W : World} {r : List (String × DataW Unit)} (h : laidMet Tryz.prog ((Rows.bucketShapesRow.laid[1].1, Rows.laid_millrace_millraceref_Fine) :: r) W) : FineLaid W := by
  obtain ⟨ps, ⟨g, t, cs, fuel, p, q, e1, e2, e3, e4, _, _⟩, _⟩ := h
  obtain rfl := Option.some.inj (fineG.symm.trans e1)
  obtain rfl := Option.some.inj (fineT.symm.trans e2)
  obtain ⟨y0, y1, n, hx, hl, h0, h1⟩ := trod_struct2 Tryz.underlying30 e4
  rw [cellsFault] at hl
  obtain ⟨l⟩ := cs
  match l, hl with
  | [c0, c1], _ =>
    simp only [cellsErrno, cellsInt, List.drop_zero, List.drop_succ_cons, List.take_succ_cons, List.take_zero] at h0 h1
    obtain ⟨a, k0, f0, _⟩ := DataW.trod_int Tryz.underlying28 h0
    obtain ⟨b, k1, f1, _⟩ := DataW.trod_int Tryz.underlying3 h1
    simp only [List.cons.injEq, and_true] at k0 k1
    subst k0 k1
    subst f0 f1
    simp only [Rows.laid_millrace_millraceref_Fine, Prod.mk.injEq, DataW.agg.injEq, List.cons.injEq, DataW.lit.injEq, Lit.int.injEq, true_and, and_true] at hx
    obtain ⟨⟨ha, hb⟩, _⟩ := hx
    have v0 := World.var?_cell fineG e3 0
    have v1 := World.var?_cell fineG e3 1
    exact ⟨by rw [v0, ← ha]; rfl, by rw [v1, ← hb]; rfl⟩

theorem bucketShapes_met (os : Os) (args : Array Value) : laidMetH Tryz.prog Rows.bucketShapesRow.laid ((World.doorLaid Tryz.prog 21 os).forCall (fun _ _ => 0) ⟨#[], args, []⟩).memory :=
  laidMetH_of_parts3 (fuel := 8) (laidMet_of_run' 8 (by kernel_rfl) (by kernel_rfl)) (by kernel_rfl) (by kernel_rfl)

set_option maxRecDepth 100000 in
theorem bucketShapes_lifted (os : Os) (started : os.Started) (H : Type) (enc : TypeId × Value → H) :
    ReturnsInHanded {} Tryz.checked os 4 .any (fun w args => (Rows.bucketShapesSpec.pre enc Tryz.prog Tryz.f4 [] false w args ∧ laidMetH Tryz.prog Rows.bucketShapesRow.laid w) ∧ sizedMet enc Tryz.prog Tryz.f4 (OpenSpec.ofChange Rows.bucketShapesSpec) false w args)
      (Rows.bucketShapesSpec.post enc Tryz.prog Tryz.f4 false true false false) := by
  refine returnsInHanded_of_change_and (C := Tryz.checked) (X := fun w _ => laidMetH Tryz.prog Rows.bucketShapesRow.laid w) (fun _ _ _ hh h => h.of_heap hh) own started (by kernel_rfl) Tryz.func4
    (ChangeSpec.witness_shaped (enc := enc) (C := Tryz.checked) (os := os) (X := fun w _ => laidMetH Tryz.prog Rows.bucketShapesRow.laid w) false (World.doorLaid Tryz.prog 21 os) #[.agg #[.int .i64 0, .int .i64 0, .int .i64 0], .slice none 0 0] 8 rfl (World.shaped_of_RefB (by kernel_rfl) (by kernel_rfl)) (by kernel_rfl) (by kernel_rfl) (by kernel_rfl) (bucketShapes_met os _)) ?_
  intro W base args ds gs before hval0 hW _ _ hL _
  have hval : ∀ (j : Nat) t v, Tryz.f4.params[j]? = some t → args[j]? = some v → Value.okWide Tryz.prog W .any base t v := hval0
  have hW' := hW
  obtain ⟨p, q, hA0, hV0, rfl, hfz, hnd⟩ := hW
  have hA : DataW.TrodAll enc Tryz.prog W 0 (fun _ => true) true Tryz.f4.params.toList args.toList ds p := hA0
  have hV : DataW.TrodVars enc Tryz.prog W (fun _ => true) [] gs q := hV0
  rw [Tryz.params4] at hA hval
  obtain ⟨v0, v1, d0, d1, p0, p1, rfl, rfl, rfl, h0, h1⟩ := trodAll_two hA
  obtain ⟨n0, t0, R0, rfl⟩ := open_bucket (hval 0 25 v0 rfl rfl) h0
  obtain ⟨x1, cap1, xs1, rfl, hI1, hm1⟩ := open_items (hval 1 26 v1 rfl rfl) h1
  have hg : Laid W := laid_of_handles hL.2 (by simp)
  have hF : FineLaid W := fine_of_laid hL.1
  obtain ⟨rfl, rfl⟩ : gs = [] ∧ q = [] := by
    cases gs with
    | nil => exact ⟨rfl, hV⟩
    | cons g r => exact absurd hV (by intro h; cases h)
  have hlt0 : ∀ y ∈ p0, y.block < W.heap.size := fun y hy => by simpa using hW'.lt y (by simp [hy])
  have hlt1 : ∀ y ∈ p1, y.block < W.heap.size := fun y hy => by simpa using hW'.lt y (by simp [hy])
  have hcall : Calls Tryz.prog 4 #[.agg #[.int .i64 n0, .int .i64 t0, .int .i64 R0], .slice x1 xs1.length cap1] W fun e w' => e = .returned (.bool true) ∧ Below W.heap.size W w' := bshape_any n0 t0 R0 x1 cap1 xs1 W hg hF hI1 hm1
  have e1 : Rows.bucketShapesSpec.fn H ([d0, d1] ++ []) = { results := [.lit (.bool true)], args := [d0, d1] } := rfl
  refine hcall.mono fun e W' ⟨he, hb⟩ => ?_
  subst he
  refine ⟨_, rfl, _, _, _, [], p0 ++ p1, [], hW', ?_, ?_, ?_, hb.frame _, fun h => by cases h⟩
  · rw [e1]; exact trodAll_mk1 (shut_bool Tryz.underlying4 true)
  · rw [e1]; exact trodAll_mk2 (Below.trod laidOut (by kernel_rfl) (of_decide_eq_true (by kernel_rfl)) h0 hb hlt0) (Below.trod laidOut (by kernel_rfl) (of_decide_eq_true (by kernel_rfl)) h1 hb hlt1)
  · rw [e1]; rfl

theorem bucketShapes_said : Rows.BucketShapesSaid :=
  OpenClaim.holds_of_wide 4 Tryz.f4 rfl rfl rfl rfl rfl rfl rfl ⟨rfl, rfl, rfl, rfl, rfl⟩ rfl rfl rfl rfl rfl (by kernel_rfl) Tryz.func4 (by kernel_rfl)
    (of_decide_eq_true (by kernel_rfl)) (by unfold Func.isWrapper; rw [if_neg (of_decide_eq_false (by kernel_rfl))]; exact ⟨rfl, rfl⟩)
    (fun os started H enc _ => bucketShapes_lifted os started H enc)

theorem bucketShapes_holds : Rows.BucketShapesCardSaid :=
  Claim7.holds_tied_plain_at .later [] [.handle, .data] true _ true
    bucketShapes_said (fun _ h => by cases h) (by kernel_rfl) (fun _ h => by cases h) bucketShapes_row_tie rfl ⟨rfl, rfl⟩ (by kernel_rfl) rfl
    (fun f fn hf hfn => by
      obtain rfl : f = 4 := Option.some.inj ((show Tryz.prog.funcNamed Rows.bucketShapesRow.func = some 4 by kernel_rfl).symm.trans hf) |>.symm
      obtain rfl : fn = Tryz.f4 := (Option.some.inj (Tryz.func4.symm.trans hfn)).symm
      exact ⟨by kernel_rfl, fun j t ht => by
        rw [Tryz.params4] at ht
        have h3 : t = 25 ∨ t = 26 := by
          rcases j with _ | _ | j
          · left; simpa using ht.symm
          · right; simpa using ht.symm
          · simp at ht
        rcases h3 with rfl | rfl
        · exact (show Tryz.prog.wantsStandIn 25 = false by kernel_rfl)
        · exact (show Tryz.prog.wantsStandIn 26 = false by kernel_rfl)⟩)
    (by kernel_rfl)
#print axioms bucketShapes_holds
end Go.Proofs.YtnppmigncjakeaaGreatDoor
