/-
  What the rows of the laws that hold package filter against the reference share: what both lay, as the walks take it. Nothing is claimed here by itself.
-/
import Derived.Test.YtibecinojkkjpaaGreatDoorFlRow
import Derived.Test.YtibecinojkkjpaaGreatDoorRp4
import Derived.SliceStrings
namespace Go.Proofs.YtibecinojkkjpaaGreatDoor
open Go.ChangeShapes Go.WideShapes Go.ChangeAt Go.RowKit

abbrev fldN : String := Rows.filterParsesRow.laid[6].1
abbrev finN : String := Rows.filterParsesRow.laid[7].1
theorem fldG : Tryz.prog.globalNamed fldN = some 0 := by kernel_rfl
theorem fldT : (Tryz.prog.globals[0]?).map (·.type) = some 64 := by kernel_rfl
theorem cellsSl : Tryz.prog.cellsOf 64 = 1 := by kernel_rfl
theorem fineG : Tryz.prog.globalNamed finN = some 1 := by kernel_rfl
theorem fineT : (Tryz.prog.globals[1]?).map (·.type) = some 25 := by kernel_rfl
theorem cellsFault : Tryz.prog.cellsOf 25 = 2 := by kernel_rfl
theorem cellsErrno : Tryz.prog.cellsOf 23 = 1 := by kernel_rfl

set_option maxRecDepth 100000 in
/-- millraceref.Fine, out of a list that opens with it. -/
theorem fine_of_laid {W : World} {r : List (String × DataW Unit)} (h : laidMet Tryz.prog ((finN, Rows.laid_millrace_millraceref_Fine) :: r) W) : GFine W := by
  obtain ⟨ps, ⟨g, t, cs, fuel, p, q, e1, e2, e3, e4, _, _⟩, _⟩ := h
  obtain rfl := Option.some.inj (fineG.symm.trans e1)
  obtain rfl := Option.some.inj (fineT.symm.trans e2)
  obtain ⟨y0, y1, n, hx, hl, h0, h1⟩ := trod_struct2 Tryz.underlying25 e4
  rw [cellsFault] at hl
  obtain ⟨l⟩ := cs
  match l, hl with
  | [c0, c1], _ =>
    simp only [cellsErrno, cellsInt, List.drop_zero, List.drop_succ_cons, List.take_succ_cons, List.take_zero] at h0 h1
    obtain ⟨a, k0, f0, _⟩ := DataW.trod_int Tryz.underlying23 h0
    obtain ⟨b, k1, f1, _⟩ := DataW.trod_int Tryz.underlying3 h1
    simp only [List.cons.injEq, and_true] at k0 k1
    subst k0 k1
    subst f0 f1
    simp only [Rows.laid_millrace_millraceref_Fine, Prod.mk.injEq, DataW.agg.injEq, List.cons.injEq, DataW.lit.injEq, Lit.int.injEq, true_and, and_true] at hx
    obtain ⟨⟨ha, hb⟩, _⟩ := hx
    have v0 := World.var?_cell fineG e3 0
    have v1 := World.var?_cell fineG e3 1
    exact ⟨by rw [v0, ← ha]; rfl, by rw [v1, ← hb]; rfl⟩
/-- A slice of strings, read off its cells. -/
theorem open_strs {H : Type} {enc : TypeId × Value → H} {W : World} {base fuel : Nat} {spare : Nat → Bool} {held : Bool} {v : Value} {x : DataW H × List MemPlace} (h : DataW.trod enc Tryz.prog W base spare held fuel 64 [v] = some x) :
    ∃ (a : Option Addr) (cap : Nat) (ss : List ByteArray), v = .slice a ss.length cap ∧ ss.length ≤ maxLen ∧ (∀ s ∈ ss, s.size ≤ maxLen) ∧ (x.1 = .nil ∨ ∃ rest, x.1 = .slice (strs ss) rest) ∧ ∀ (i : Nat) s, ss[i]? = some s → ∃ b off, a = some ⟨b, off, none⟩ ∧ W.cell? ⟨b, off + i, none⟩ = some (.string s) := by
  rcases open_strings Tryz.underlying64 Tryz.underlying9 cellsStr h with ⟨hcs, hx⟩ | ⟨a, len, cap, ss, hcs, _, hl, hm, hz, hx, hcell, hsz⟩
  · simp only [List.cons.injEq, and_true] at hcs
    subst hcs
    exact ⟨none, 0, [], rfl, by simp, by simp, Or.inl (by rw [hx]), by simp⟩
  · simp only [List.cons.injEq, and_true] at hcs
    subst hcs
    have hle : len ≤ ss.length := by rw [hz]; split <;> omega
    have hlen : (ss.take len).length = len := by rw [List.length_take]; omega
    refine ⟨some a, cap, ss.take len, by rw [hlen], by rw [hlen]; omega, fun s hs => hsz s (List.mem_of_mem_take hs), Or.inr ⟨_, by rw [hx]⟩, fun i s hi => ?_⟩
    have hi1 : i < len := by have := (List.getElem?_eq_some_iff.1 hi).1; omega
    have hg : ss[i]? = some s := by rw [List.getElem?_take_of_lt hi1] at hi; exact hi
    obtain ⟨b, off, spot⟩ := a
    have hspot : spot = none := by
      have := hcell 0 (by omega)
      simpa [Addr.add] using World.cell?_spot this
    subst hspot
    refine ⟨b, off, rfl, ?_⟩
    have := hcell i (by omega)
    rw [List.getD_eq_getElem?_getD, hg] at this
    by_cases h0 : i = 0
    · subst h0; simpa [Addr.add] using this
    · simpa [Addr.add, h0] using this

set_option maxRecDepth 100000 in
/-- The reference's fields' names, out of a list that opens with them. -/
theorem flds_of_laid {W : World} {r : List (String × DataW Unit)} (h : laidMet Tryz.prog ((fldN, Rows.laid_millrace_millraceref_fields) :: r) W) :
    ∃ fb off cap : Nat, W.cell? ⟨0, 0, none⟩ = some (.slice (some ⟨fb, off, none⟩) 5 cap) ∧ ∀ i, i < 5 → W.cell? ⟨fb, off + i, none⟩ = some (.string ⟨(nameF i).toArray⟩) := by
  obtain ⟨ps, ⟨g, t, cs, fuel, p, q, e1, e2, e3, e4, _, _⟩, _⟩ := h
  obtain rfl := Option.some.inj (fldG.symm.trans e1)
  obtain rfl := Option.some.inj (fldT.symm.trans e2)
  obtain ⟨l⟩ := cs
  have hl : l.length = 1 := by
    rcases open_strings Tryz.underlying64 Tryz.underlying9 cellsStr e4 with ⟨hcs, hx⟩ | ⟨a, len, cap, ss, hcs, _⟩
    · simp at hcs; rw [hcs]; rfl
    · simp at hcs; rw [hcs]; rfl
  match l, hl with
  | [v], _ =>
    obtain ⟨a, cap, ss, rfl, _, _, hx, hel⟩ := open_strs e4
    have hss : strs (H := Unit) ss = [.lit (.string [97, 116]), .lit (.string [108, 101, 110]), .lit (.string [102, 108, 111, 119]), .lit (.string [98, 97, 110, 100]), .lit (.string [109, 97, 114, 107])] := by
      rcases hx with hx | ⟨rest, hx⟩
      · simp [Rows.laid_millrace_millraceref_fields] at hx
      · simp only [Rows.laid_millrace_millraceref_fields, DataW.slice.injEq] at hx
        exact hx.1.symm
    have hlen : ss.length = 5 := by
      have := congrArg List.length hss
      simpa [strs] using this
    obtain ⟨s0, s1, s2, s3, s4, rfl⟩ := list5 hlen
    simp only [strs, List.map_cons, List.map_nil, List.cons.injEq, DataW.lit.injEq, Lit.string.injEq, and_true] at hss
    obtain ⟨a0, a1, a2, a3, a4⟩ := hss
    have v0 := World.var?_cell fldG e3 0
    obtain ⟨b, off, rfl, c0⟩ := hel 0 s0 rfl
    have k : ∀ (i : Nat) s, [s0, s1, s2, s3, s4][i]? = some s → W.cell? ⟨b, off + i, none⟩ = some (.string s) := fun i s h => by
      obtain ⟨b', off', e, c⟩ := hel i s h
      injection e with e
      injection e with e1 e2
      subst e1 e2
      exact c
    refine ⟨b, off, cap, by rw [v0]; rfl, fun i hi => ?_⟩
    match i, hi with
    | 0, _ => rw [k 0 s0 rfl, str_of_list a0]; rfl
    | 1, _ => rw [k 1 s1 rfl, str_of_list a1]; rfl
    | 2, _ => rw [k 2 s2 rfl, str_of_list a2]; rfl
    | 3, _ => rw [k 3 s3 rfl, str_of_list a3]; rfl
    | 4, _ => rw [k 4 s4 rfl, str_of_list a4]; rfl
/-- What program and reference lay, as the walks take it: strconv's table, and the rest. -/
theorem globs_of_two {W : World} {r0 r : List (String × DataW Unit)} (h2 : laidMet Tryz.prog (("internal/strconv.uint64pow10", Rows.laid_internal_strconv_uint64pow10) :: r0) W) (h3 : laidMet Tryz.prog (("strconv.ErrRange", Rows.laid_strconv_ErrRange) :: ("strconv.ErrSyntax", Rows.laid_strconv_ErrSyntax) :: (fldN, Rows.laid_millrace_millraceref_fields) :: (finN, Rows.laid_millrace_millraceref_Fine) :: (namN, Rows.laid_millrace_filter_fieldNames) :: r) W) (hsh : W.ShapedOpen Tryz.prog) : GlobF W ∧ GlobR W ∧ GFine W := by
  rw [powData] at h2
  have hT := Lib.tabIs_of_head powG powT Tryz.underlying181 Tryz.underlying167 cellsU64 cellsPow h2
  obtain ⟨a1, s1, hv1, -, -, -⟩ := laid_sentinel h3 gER gERT Tryz.underlying31 rowES Tryz.underlying190 Tryz.underlying192 rfl rfl Tryz.underlying9 cellsES cellsStr
  obtain ⟨a0, s0, hv0, -, -, -⟩ := laid_sentinel h3.tail gES gEST Tryz.underlying31 rowES Tryz.underlying190 Tryz.underlying192 rfl rfl Tryz.underlying9 cellsES cellsStr
  obtain ⟨n0, n1, n2, n3, n4⟩ := names_of_laid h3.tail.tail.tail.tail
  have hml := cell_of_shapedOpen_int (zero := #[.int .i64 0]) (t := 3) (k := .i64) (g := 3) hsh (by decide) (by kernel_rfl) rfl (by kernel_rfl) (by kernel_rfl) Tryz.underlying3
  have hg : Glob W := ⟨hT, ⟨_, _, hv0⟩, _, _, hv1⟩
  exact ⟨⟨hg, n0, n1, n2, n3, n4, hml⟩, ⟨hg, hml, flds_of_laid h3.tail.tail⟩, fine_of_laid h3.tail.tail.tail⟩
theorem globs_of_laid {W : World} {r : List (String × DataW Unit)} (h2 : laidMet Tryz.prog (("internal/strconv.uint64pow10", Rows.laid_internal_strconv_uint64pow10) :: ("strconv.ErrRange", Rows.laid_strconv_ErrRange) :: ("strconv.ErrSyntax", Rows.laid_strconv_ErrSyntax) :: (fldN, Rows.laid_millrace_millraceref_fields) :: (finN, Rows.laid_millrace_millraceref_Fine) :: (namN, Rows.laid_millrace_filter_fieldNames) :: r) W) (hsh : W.ShapedOpen Tryz.prog) : GlobF W ∧ GlobR W ∧ GFine W := globs_of_two h2 h2.tail hsh
end Go.Proofs.YtibecinojkkjpaaGreatDoor
