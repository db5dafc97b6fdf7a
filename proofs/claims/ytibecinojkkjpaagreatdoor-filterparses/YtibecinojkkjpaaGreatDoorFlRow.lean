/-
  What the rows of package filter's laws share: a text and a packet read off the arguments; what the program lays, as the walks take it. Nothing is claimed here by itself.
-/
import Derived.Test.YtibecinojkkjpaaGreatDoorRows
import Derived.Test.YtibecinojkkjpaaGreatDoorTie
import Derived.Test.YtibecinojkkjpaaGreatDoorCards
import Derived.Test.YtibecinojkkjpaaGreatDoorFl2
import Derived.ChangeSame
import Derived.ChangeVars
import Derived.ChangeMaps5
import Derived.JoinedOf
import Derived.RowKit
import Derived.RowKitTokens
import Derived.LaidLaws
import Derived.LaidMore
import Derived.LaidHandle
import Derived.Carry
import Derived.OpenShut
import Derived.HandedShaped
import Derived.Shelf.Vars
import Derived.Lib.LaidTab
import Derived.Stop.LaidErr
import Derived.Stop.Joined
import Derived.SevenTiedAt
import Derived.Lib.SmallJoins
namespace Go.Proofs.YtibecinojkkjpaaGreatDoor
open Go.ChangeShapes Go.WideShapes Go.ChangeAt Go.RowKit

theorem own : ownKnob Tryz.prog.godebug = none := by kernel_rfl
theorem laidOut : laidOutB Tryz.prog = true := by kernel_rfl
theorem cellsItem : Tryz.prog.cellsOf 215 = 5 := by kernel_rfl
theorem cellsInt : Tryz.prog.cellsOf 3 = 1 := by kernel_rfl
theorem list5 {α : Type} {l : List α} (h : l.length = 5) : ∃ a b c d e, l = [a, b, c, d, e] := by
  match l, h with
  | [a, b, c, d, e], _ => exact ⟨a, b, c, d, e, rfl⟩

theorem trod5 {H : Type} {enc : TypeId × Value → H} {P : Program} {w : World} {base : Nat} {spare : Nat → Bool} {held : Bool} {t : TypeId} {f0 f1 f2 f3 f4 : Field} {fuel : Nat} {cs : List Value} {x : DataW H × List MemPlace} (ht : P.underlying t = some (.struct #[f0, f1, f2, f3, f4])) (h : DataW.trod enc P w base spare held fuel t cs = some x) :
    ∃ y0 y1 y2 y3 y4 n, cs.length = P.cellsOf t ∧ DataW.trod enc P w base spare held n f0.type ((cs.drop f0.offset).take (P.cellsOf f0.type)) = some y0 ∧ DataW.trod enc P w base spare held n f1.type ((cs.drop f1.offset).take (P.cellsOf f1.type)) = some y1 ∧
      DataW.trod enc P w base spare held n f2.type ((cs.drop f2.offset).take (P.cellsOf f2.type)) = some y2 ∧ DataW.trod enc P w base spare held n f3.type ((cs.drop f3.offset).take (P.cellsOf f3.type)) = some y3 ∧ DataW.trod enc P w base spare held n f4.type ((cs.drop f4.offset).take (P.cellsOf f4.type)) = some y4 := by
  obtain ⟨xs, n, _, rfl, hl, hlen, hf⟩ := DataW.trod_struct ht h
  obtain ⟨y0, y1, y2, y3, y4, rfl⟩ := list5 hlen
  exact ⟨y0, y1, y2, y3, y4, n, hl, by simpa using hf 0 f0 rfl, by simpa using hf 1 f1 rfl, by simpa using hf 2 f2 rfl, by simpa using hf 3 f3 rfl, by simpa using hf 4 f4 rfl⟩

set_option maxRecDepth 100000 in
/-- A packet, read off an argument. -/
theorem open_packet {H : Type} {enc : TypeId × Value → H} {W : World} {b0 base : Nat} {spare : Nat → Bool} {held : Bool} {v : Value} {d : DataW H} {p : List MemPlace} {r : Reach}
    (hv : Value.okWide Tryz.prog W r b0 215 v) (h : DataW.Trod enc Tryz.prog W base spare held 215 v d p) : ∃ x : It, v = .agg x.cells := by
  obtain ⟨cs, rfl, hsz⟩ := okWide_struct Tryz.underlying215 hv
  rw [cellsItem] at hsz
  obtain ⟨l⟩ := cs
  obtain ⟨c0, c1, c2, c3, c4, rfl⟩ := list5 hsz
  obtain ⟨fuel, hf⟩ := h
  obtain ⟨y0, y1, y2, y3, y4, n, _, k0, k1, k2, k3, k4⟩ := trod5 Tryz.underlying215 hf
  simp only [Value.cells, cellsInt, List.drop_zero, List.drop_succ_cons, List.take_succ_cons, List.take_zero] at k0 k1 k2 k3 k4
  obtain ⟨a, e0, _, _⟩ := DataW.trod_int Tryz.underlying3 k0
  obtain ⟨l, e1, _, _⟩ := DataW.trod_int Tryz.underlying3 k1
  obtain ⟨f, e2, _, _⟩ := DataW.trod_int Tryz.underlying3 k2
  obtain ⟨b, e3, _, _⟩ := DataW.trod_int Tryz.underlying3 k3
  obtain ⟨m, e4, _, _⟩ := DataW.trod_int Tryz.underlying3 k4
  simp only [List.cons.injEq, and_true] at e0 e1 e2 e3 e4
  exact ⟨⟨a, l, f, b, m⟩, by rw [e0, e1, e2, e3, e4]; rfl⟩
theorem powG : Tryz.prog.globalNamed "internal/strconv.uint64pow10" = some 5 := by kernel_rfl
theorem powT : (Tryz.prog.globals[5]?).map (·.type) = some 181 := by kernel_rfl
theorem cellsU64 : Tryz.prog.cellsOf 167 = 1 := by kernel_rfl
theorem cellsPow : Tryz.prog.cellsOf 181 = 20 := by kernel_rfl
theorem powData : Rows.laid_internal_strconv_uint64pow10 = (Lib.tabData .u64 Lib.pow10Tab : DataW Unit) := by kernel_rfl
theorem gER : Tryz.prog.globalNamed "strconv.ErrRange" = some 7 := by kernel_rfl
theorem gERT : (Tryz.prog.globals[7]?).map (·.type) = some 31 := by kernel_rfl
theorem gES : Tryz.prog.globalNamed "strconv.ErrSyntax" = some 6 := by kernel_rfl
theorem gEST : (Tryz.prog.globals[6]?).map (·.type) = some 31 := by kernel_rfl
theorem cellsES : Tryz.prog.cellsOf 192 = 1 := by kernel_rfl
theorem cellsStr : Tryz.prog.cellsOf 9 = 1 := by kernel_rfl

theorem starES : "*" ++ "errors.errorString" = "*errors.errorString" := by decide
theorem rowES (u : TypeId) (h : Tryz.prog.typeName? 3 u = some "*errors.errorString") : u = 190 :=
  typeName_ptr_named (nm := "errors.errorString") (by rw [starES]; kernel_rfl) (by kernel_rfl) (by decide) u (by rw [starES]; exact h)


abbrev namN : String := Rows.filterParsesRow.laid[8].1
theorem namG : Tryz.prog.globalNamed namN = some 2 := by kernel_rfl
theorem namT : (Tryz.prog.globals[2]?).map (·.type) = some 105 := by kernel_rfl
theorem cellsNam : Tryz.prog.cellsOf 105 = 5 := by kernel_rfl
theorem str_of_list {s : ByteArray} {l : List UInt8} (h : s.data.toList = l) : s = ⟨l.toArray⟩ := by
  obtain ⟨⟨d⟩⟩ := s
  simp at h
  subst h
  rfl

set_option maxRecDepth 100000 in
/-- The fields' names, out of a list that opens with them. -/
theorem names_of_laid {W : World} {r : List (String × DataW Unit)} (h : laidMet Tryz.prog ((namN, Rows.laid_millrace_filter_fieldNames) :: r) W) :
    W.cell? ⟨2, 0, none⟩ = some (.string ⟨#[97, 116]⟩) ∧ W.cell? ⟨2, 1, none⟩ = some (.string ⟨#[108, 101, 110]⟩) ∧ W.cell? ⟨2, 2, none⟩ = some (.string ⟨#[102, 108, 111, 119]⟩) ∧ W.cell? ⟨2, 3, none⟩ = some (.string ⟨#[98, 97, 110, 100]⟩) ∧ W.cell? ⟨2, 4, none⟩ = some (.string ⟨#[109, 97, 114, 107]⟩) := by
  obtain ⟨ps, ⟨g, t, cs, fuel, p, q, e1, e2, e3, e4, _, _⟩, _⟩ := h
  obtain rfl := Option.some.inj (namG.symm.trans e1)
  obtain rfl := Option.some.inj (namT.symm.trans e2)
  obtain ⟨xs, m, _, hx, hl, hlen, hel⟩ := DataW.trod_array Tryz.underlying105 e4
  rw [cellsNam] at hl
  obtain ⟨l⟩ := cs
  obtain ⟨c0, c1, c2, c3, c4, rfl⟩ := list5 hl
  obtain ⟨y0, y1, y2, y3, y4, rfl⟩ := list5 hlen
  have k0 := hel 0 (by decide); have k1 := hel 1 (by decide); have k2 := hel 2 (by decide); have k3 := hel 3 (by decide); have k4 := hel 4 (by decide)
  simp only [cellsStr, Nat.mul_one, List.drop_zero, List.drop_succ_cons, List.take_succ_cons, List.take_zero, List.getElem?_cons_zero, List.getElem?_cons_succ] at k0 k1 k2 k3 k4
  obtain ⟨s0, z0, f0, _⟩ := DataW.trod_string Tryz.underlying9 k0
  obtain ⟨s1, z1, f1, _⟩ := DataW.trod_string Tryz.underlying9 k1
  obtain ⟨s2, z2, f2, _⟩ := DataW.trod_string Tryz.underlying9 k2
  obtain ⟨s3, z3, f3, _⟩ := DataW.trod_string Tryz.underlying9 k3
  obtain ⟨s4, z4, f4, _⟩ := DataW.trod_string Tryz.underlying9 k4
  simp only [List.cons.injEq, and_true] at z0 z1 z2 z3 z4
  subst z0 z1 z2 z3 z4 f0 f1 f2 f3 f4
  simp only [Rows.laid_millrace_filter_fieldNames, List.map_cons, List.map_nil, Prod.mk.injEq, DataW.agg.injEq, List.cons.injEq, DataW.lit.injEq, Lit.string.injEq, and_true] at hx
  obtain ⟨⟨a0, a1, a2, a3, a4⟩, _⟩ := hx
  have v0 := World.var?_cell namG e3 0
  have v1 := World.var?_cell namG e3 1
  have v2 := World.var?_cell namG e3 2
  have v3 := World.var?_cell namG e3 3
  have v4 := World.var?_cell namG e3 4
  refine ⟨?_, ?_, ?_, ?_, ?_⟩
  · rw [v0, str_of_list a0.symm]; rfl
  · rw [v1, str_of_list a1.symm]; rfl
  · rw [v2, str_of_list a2.symm]; rfl
  · rw [v3, str_of_list a3.symm]; rfl
  · rw [v4, str_of_list a4.symm]; rfl
/-- What the program lays, as the walks take it. -/
theorem globF_of_laid {W : World} {a b : String × DataW Unit} {r : List (String × DataW Unit)} (h : laidMet Tryz.prog (a :: b :: ("internal/strconv.uint64pow10", Rows.laid_internal_strconv_uint64pow10) :: ("strconv.ErrRange", Rows.laid_strconv_ErrRange) :: ("strconv.ErrSyntax", Rows.laid_strconv_ErrSyntax) :: (namN, Rows.laid_millrace_filter_fieldNames) :: r) W) (hsh : W.ShapedOpen Tryz.prog) : GlobF W := by
  have h2 := h.tail.tail
  rw [powData] at h2
  have hT := Lib.tabIs_of_head powG powT Tryz.underlying181 Tryz.underlying167 cellsU64 cellsPow h2
  obtain ⟨a1, s1, hv1, -, -, -⟩ := laid_sentinel h2.tail gER gERT Tryz.underlying31 rowES Tryz.underlying190 Tryz.underlying192 rfl rfl Tryz.underlying9 cellsES cellsStr
  obtain ⟨a0, s0, hv0, -, -, -⟩ := laid_sentinel h2.tail.tail gES gEST Tryz.underlying31 rowES Tryz.underlying190 Tryz.underlying192 rfl rfl Tryz.underlying9 cellsES cellsStr
  obtain ⟨n0, n1, n2, n3, n4⟩ := names_of_laid h2.tail.tail.tail
  exact ⟨⟨hT, ⟨_, _, hv0⟩, _, _, hv1⟩, n0, n1, n2, n3, n4, cell_of_shapedOpen_int (zero := #[.int .i64 0]) (t := 3) (k := .i64) hsh (by decide) (by kernel_rfl) rfl (by kernel_rfl) (by kernel_rfl) Tryz.underlying3⟩
/-- A row with a list that is laid, the world's shape kept. -/
theorem handed_shaped {H : Type} {enc : TypeId × Value → H} {a : Assume} {C : Checked} {os : Os} {f : FuncId} {fn : Func} {s : ChangeSpec} {conds : List PathCond} {apart fresh handsOn again : Bool} {X : World → Array Value → Prop}
    (hX : ∀ (w w' : World) (args : Array Value), w.heap = w'.heap → X w args → X w' args)
    (own : ownKnob C.prog.godebug = none) (started : os.Started) (noInit : C.prog.inits.idxOf? f = none) (hfn : C.prog.funcs[f]? = some fn)
    (witness : ∃ (w : World) (tape : Tape) (i : Input), w.os = os ∧ (w.forCall tape i).Shaped C.prog ∧ i.vars = [] ∧ Input.okWide C.prog (w.forCall tape i) .any w.heap.size f i ∧
      ((s.pre enc C.prog fn conds apart (w.forCall tape i).memory i.args ∧ X (w.forCall tape i).memory i.args) ∧ sizedMet enc C.prog fn (OpenSpec.ofChange s) apart (w.forCall tape i).memory i.args) ∧ a.holds C.prog (lone (Frame.enter C.prog f i.args .normal) [] (w.forCall tape i)))
    (contract : ∀ (W : World) (base : Nat) (args : Array Value) (ds gs : List (DataW H)) (before : List MemPlace),
      (∀ (j : Nat) t v, fn.params[j]? = some t → args[j]? = some v → Value.okWide C.prog W .any base t v) →
      DataW.Whole enc C.prog fn.params.toList s.vars apart W args.toList ds gs before → X W args → W.ShapedOpen C.prog →
      Calls C.prog f args W fun e W' => ∃ v, e = .returned v ∧ s.post enc C.prog fn apart fresh handsOn again W args v W') :
    ReturnsInHanded a C os f .any (fun w args => (s.pre enc C.prog fn conds apart w args ∧ X w args) ∧ sizedMet enc C.prog fn (OpenSpec.ofChange s) apart w args) (s.post enc C.prog fn apart fresh handsOn again) := by
  refine returnsInHanded_of_calls own started noInit witness fun w tape i _ shape _ good pre _ => ?_
  obtain ⟨_, _, _, fn', hf', _, _, _, _, val⟩ := good
  obtain rfl : fn' = fn := Option.some.inj (hf'.symm.trans hfn)
  obtain ⟨⟨⟨ds, gs, before, whole, _⟩, x⟩, _⟩ := pre
  refine (contract (w.forCall tape i) w.heap.size i.args ds gs before val (DataW.Whole.of_heap (w' := w.forCall tape i) (by rfl) whole) (hX _ _ _ (by rfl) x) shape).mono ?_
  rintro e W' ⟨v, rfl, post⟩
  exact ChangeSpec.post_blind post
end Go.Proofs.YtibecinojkkjpaaGreatDoor
