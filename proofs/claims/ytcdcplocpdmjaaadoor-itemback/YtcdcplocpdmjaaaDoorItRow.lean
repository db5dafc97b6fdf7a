/-
  What the rows of package item's laws of texts share: what the program lays, as the walks take it. Nothing is claimed here by itself.
-/
import Derived.Test.YtcdcplocpdmjaaaDoorRows
import Derived.Test.YtcdcplocpdmjaaaDoorTie
import Derived.Test.YtcdcplocpdmjaaaDoorCards
import Derived.Test.YtcdcplocpdmjaaaDoorIpa
import Derived.ChangeSame
import Derived.ChangeVars
import Derived.ChangeMaps5
import Derived.JoinedOf
import Derived.RowKit
import Derived.RowKitTokens
import Derived.LaidLaws
import Derived.LaidMore
import Derived.LaidHandle
import Derived.Carry
import Derived.OpenShut
import Derived.HandedShaped
import Derived.Shelf.Vars
import Derived.Lib.LaidTab
import Derived.Stop.LaidErr
import Derived.Stop.Joined
import Derived.SevenTiedAt
import Derived.Lib.SmallJoins
namespace Go.Proofs.YtcdcplocpdmjaaaDoor
open Go.ChangeShapes Go.WideShapes Go.ChangeAt Go.RowKit

theorem own : ownKnob Tryd.prog.godebug = none := by kernel_rfl
theorem laidOut : laidOutB Tryd.prog = true := by kernel_rfl
theorem cellsItem : Tryd.prog.cellsOf 39 = 5 := by kernel_rfl
theorem cellsInt : Tryd.prog.cellsOf 3 = 1 := by kernel_rfl
theorem powG : Tryd.prog.globalNamed "internal/strconv.uint64pow10" = some 5 := by kernel_rfl
theorem powT : (Tryd.prog.globals[5]?).map (·.type) = some 141 := by kernel_rfl
theorem cellsU64 : Tryd.prog.cellsOf 109 = 1 := by kernel_rfl
theorem cellsPow : Tryd.prog.cellsOf 141 = 20 := by kernel_rfl
theorem powData : Rows.laid_internal_strconv_uint64pow10 = (Lib.tabData .u64 Lib.pow10Tab : DataW Unit) := by kernel_rfl
theorem gER : Tryd.prog.globalNamed "strconv.ErrRange" = some 4 := by kernel_rfl
theorem gERT : (Tryd.prog.globals[4]?).map (·.type) = some 29 := by kernel_rfl
theorem gES : Tryd.prog.globalNamed "strconv.ErrSyntax" = some 3 := by kernel_rfl
theorem gEST : (Tryd.prog.globals[3]?).map (·.type) = some 29 := by kernel_rfl
theorem cellsES : Tryd.prog.cellsOf 154 = 1 := by kernel_rfl
theorem cellsStr : Tryd.prog.cellsOf 9 = 1 := by kernel_rfl

theorem starES : "*" ++ "errors.errorString" = "*errors.errorString" := by decide
theorem rowES (u : TypeId) (h : Tryd.prog.typeName? 3 u = some "*errors.errorString") : u = 152 :=
  typeName_ptr_named (nm := "errors.errorString") (by rw [starES]; kernel_rfl) (by kernel_rfl) (by decide) u (by rw [starES]; exact h)


abbrev finN : String := Rows.itemParsesRow.laid[7].1
theorem fineG : Tryd.prog.globalNamed finN = some 0 := by kernel_rfl
theorem fineT : (Tryd.prog.globals[0]?).map (·.type) = some 25 := by kernel_rfl
theorem cellsFault : Tryd.prog.cellsOf 25 = 2 := by kernel_rfl
theorem cellsErrno : Tryd.prog.cellsOf 23 = 1 := by kernel_rfl

set_option maxRecDepth 100000 in
/-- millraceref.Fine, out of a list that opens with it. -/
theorem fine_of_laid {W : World} {r : List (String × DataW Unit)} (h : laidMet Tryd.prog ((finN, Rows.laid_millrace_millraceref_Fine) :: r) W) : FineLaid W := by
  obtain ⟨ps, ⟨g, t, cs, fuel, p, q, e1, e2, e3, e4, _, _⟩, _⟩ := h
  obtain rfl := Option.some.inj (fineG.symm.trans e1)
  obtain rfl := Option.some.inj (fineT.symm.trans e2)
  obtain ⟨y0, y1, n, hx, hl, h0, h1⟩ := trod_struct2 Tryd.underlying25 e4
  rw [cellsFault] at hl
  obtain ⟨l⟩ := cs
  match l, hl with
  | [c0, c1], _ =>
    simp only [cellsErrno, cellsInt, List.drop_zero, List.drop_succ_cons, List.take_succ_cons, List.take_zero] at h0 h1
    obtain ⟨a, k0, f0, _⟩ := DataW.trod_int Tryd.underlying23 h0
    obtain ⟨b, k1, f1, _⟩ := DataW.trod_int Tryd.underlying3 h1
    simp only [List.cons.injEq, and_true] at k0 k1
    subst k0 k1
    subst f0 f1
    simp only [Rows.laid_millrace_millraceref_Fine, Prod.mk.injEq, DataW.agg.injEq, List.cons.injEq, DataW.lit.injEq, Lit.int.injEq, true_and, and_true] at hx
    obtain ⟨⟨ha, hb⟩, _⟩ := hx
    have v0 := World.var?_cell fineG e3 0
    have v1 := World.var?_cell fineG e3 1
    exact ⟨by rw [v0, ← ha]; rfl, by rw [v1, ← hb]; rfl⟩
theorem globs_of_laid {W : World} {r : List (String × DataW Unit)} {x : String × DataW Unit} (h2 : laidMet Tryd.prog (("internal/strconv.uint64pow10", Rows.laid_internal_strconv_uint64pow10) :: x :: ("strconv.ErrRange", Rows.laid_strconv_ErrRange) :: ("strconv.ErrSyntax", Rows.laid_strconv_ErrSyntax) :: (finN, Rows.laid_millrace_millraceref_Fine) :: r) W) (hsh : W.ShapedOpen Tryd.prog) : GlobM W ∧ FineLaid W := by
  have h3 := h2.tail.tail
  rw [powData] at h2
  have hT := Lib.tabIs_of_head powG powT Tryd.underlying141 Tryd.underlying109 cellsU64 cellsPow h2
  obtain ⟨a1, s1, hv1, -, -, -⟩ := laid_sentinel h3 gER gERT Tryd.underlying29 rowES Tryd.underlying152 Tryd.underlying154 rfl rfl Tryd.underlying9 cellsES cellsStr
  obtain ⟨a0, s0, hv0, -, -, -⟩ := laid_sentinel h3.tail gES gEST Tryd.underlying29 rowES Tryd.underlying152 Tryd.underlying154 rfl rfl Tryd.underlying9 cellsES cellsStr
  have hml := cell_of_shapedOpen_int (zero := #[.int .i64 0]) (t := 3) (k := .i64) (g := 2) hsh (by decide) (by kernel_rfl) rfl (by kernel_rfl) (by kernel_rfl) Tryd.underlying3
  have hg : Glob W := ⟨hT, ⟨_, _, hv0⟩, _, _, hv1⟩
  exact ⟨⟨hg, hml⟩, fine_of_laid h3.tail.tail⟩
/-- A row with a list that is laid, the world's shape kept. -/
theorem handed_shaped {H : Type} {enc : TypeId × Value → H} {a : Assume} {C : Checked} {os : Os} {f : FuncId} {fn : Func} {s : ChangeSpec} {conds : List PathCond} {apart fresh handsOn again : Bool} {X : World → Array Value → Prop}
    (hX : ∀ (w w' : World) (args : Array Value), w.heap = w'.heap → X w args → X w' args)
    (own : ownKnob C.prog.godebug = none) (started : os.Started) (noInit : C.prog.inits.idxOf? f = none) (hfn : C.prog.funcs[f]? = some fn)
    (witness : ∃ (w : World) (tape : Tape) (i : Input), w.os = os ∧ (w.forCall tape i).Shaped C.prog ∧ i.vars = [] ∧ Input.okWide C.prog (w.forCall tape i) .any w.heap.size f i ∧
      ((s.pre enc C.prog fn conds apart (w.forCall tape i).memory i.args ∧ X (w.forCall tape i).memory i.args) ∧ sizedMet enc C.prog fn (OpenSpec.ofChange s) apart (w.forCall tape i).memory i.args) ∧ a.holds C.prog (lone (Frame.enter C.prog f i.args .normal) [] (w.forCall tape i)))
    (contract : ∀ (W : World) (base : Nat) (args : Array Value) (ds gs : List (DataW H)) (before : List MemPlace),
      (∀ (j : Nat) t v, fn.params[j]? = some t → args[j]? = some v → Value.okWide C.prog W .any base t v) →
      DataW.Whole enc C.prog fn.params.toList s.vars apart W args.toList ds gs before → X W args → W.ShapedOpen C.prog →
      Calls C.prog f args W fun e W' => ∃ v, e = .returned v ∧ s.post enc C.prog fn apart fresh handsOn again W args v W') :
    ReturnsInHanded a C os f .any (fun w args => (s.pre enc C.prog fn conds apart w args ∧ X w args) ∧ sizedMet enc C.prog fn (OpenSpec.ofChange s) apart w args) (s.post enc C.prog fn apart fresh handsOn again) := by
  refine returnsInHanded_of_calls own started noInit witness fun w tape i _ shape _ good pre _ => ?_
  obtain ⟨_, _, _, fn', hf', _, _, _, _, val⟩ := good
  obtain rfl : fn' = fn := Option.some.inj (hf'.symm.trans hfn)
  obtain ⟨⟨⟨ds, gs, before, whole, _⟩, x⟩, _⟩ := pre
  refine (contract (w.forCall tape i) w.heap.size i.args ds gs before val (DataW.Whole.of_heap (w' := w.forCall tape i) (by rfl) whole) (hX _ _ _ (by rfl) x) shape).mono ?_
  rintro e W' ⟨v, rfl, post⟩
  exact ChangeSpec.post_blind post
end Go.Proofs.YtcdcplocpdmjaaaDoor
