/-
  package signs: which texts are numbers. Conditions: what strconv lays is laid; the text has 20000 bytes at most.
-/
import Derived.Test.YtheadpemckoljaaGreatDoorShelf
import Derived.Test.YtheadpemckoljaaGreatDoorSg
import Derived.Lib.AppendIntMem
import Derived.Lib.AtoiErrMem
import Derived.Lib.ParseIntBTie
import Derived.Lib.OthersKept
namespace Go.Proofs.YtheadpemckoljaaGreatDoor
open Go.RowKit Go.Extern.Stop Go.Stop Go.Extern

theorem toList_dataN (b : ByteArray) : b.toList = b.data.toList := ByteArray.toList_eq b
/-- What strconv has laid: its powers of ten, its two errors. -/
def Glob (w : World) : Prop := Lib.TabIs Tryz.prog w "internal/strconv.uint64pow10" .u64 Lib.pow10Tab ∧ (∃ tp p, w.var? Tryz.prog "strconv.ErrSyntax" = some #[.iface tp p]) ∧ ∃ tp p, w.var? Tryz.prog "strconv.ErrRange" = some #[.iface tp p]
theorem var_kept {w w' : World} {s : String} {a : Array Value} (h : w.var? Tryz.prog s = some a) (hb : Below w.heap.size w w') : w'.var? Tryz.prog s = some a := by
  unfold World.var? at h ⊢
  cases hg : Tryz.prog.globalNamed s with
  | none => rw [hg] at h; exact h
  | some g =>
    rw [hg] at h
    simp only [Option.bind_some] at h ⊢
    have hlt : g < w.heap.size := by
      rcases Nat.lt_or_ge g w.heap.size with h2 | h2
      · exact h2
      · rw [Array.getElem?_eq_none h2] at h; simp at h
    rw [hb.block g hlt]
    exact h
theorem Glob.below {w w' : World} (h : Glob w) (hb : Below w.heap.size w w') : Glob w' :=
  ⟨var_kept h.1 hb, h.2.1.imp fun _ h => h.imp fun _ h => var_kept h hb, h.2.2.imp fun _ h => h.imp fun _ h => var_kept h hb⟩
/-- The number that a word is. -/
def numL (l : List UInt8) : Option Int := match Lib.parseIntB 64 l with | .ok v => if Lib.itoa v = l then some v else none | _ => none
theorem number_any' (s : ByteArray) (w : World) (hs : s.size ≤ 20000) (hG : Glob w) :
    Calls Tryz.prog 52 #[.string s] w fun e w' => e = .returned (.tuple #[.int .i64 ((numL s.data.toList).getD 0), .bool (numL s.data.toList).isSome]) ∧ Below w.heap.size w w' := by
  rcases hp : Lib.parseIntB 64 s.data.toList with v | _ | _
  ·
    have hv : -9223372036854775808 ≤ v ∧ v ≤ 9223372036854775807 := by have := Lib.parseIntB_bounds hp; simp at this; omega
    have HP : Hid (Calls Tryz.prog 56 #[.string s, .int .i64 10, .int .i64 64] w fun e w' => e = .returned (.tuple #[.int .i64 v, .nilIface]) ∧ Below w.heap.size w w') := by
      refine (Tryz.strconv_ParseInt_10_at64_ok s (by omega) v hp w).mono ?_
      rintro e w' ⟨rfl, rfl | ⟨t, rfl⟩⟩
      · exact ⟨rfl, Below.refl _ _⟩
      · exact ⟨rfl, Lib.bytesWorld_below _ _ _⟩
    have HF : Hid (∀ w1, Below w.heap.size w w1 → Calls Tryz.prog 57 #[.int .i64 v, .int .i64 10] w1 fun e w' => e = .returned (.string ⟨(Lib.itoa v).toArray⟩) ∧ Below w1.heap.size w1 w') := by
      intro w1 hb1
      refine (Tryz.strconv_FormatInt_10 v hv.1 hv.2 w1 (hG.below hb1).1).mono ?_
      rintro e w' ⟨rfl, k, os, rfl⟩
      exact ⟨rfl, Lib.below_grow _ _ (Nat.le_refl _) _ _⟩
    by_cases hq : Lib.itoa v = s.data.toList
    · have o1 : (Lib.itoa v == s.toList) = true := by rw [toList_dataN]; simpa using hq
      have HN : Hid (numL s.data.toList = some v) := by show _ = _; unfold numL; rw [hp]; simp [hq]
      clear hp hq
      go_enter Tryz.func52, Tryz.ntmps52
      go_wp2_with (first | (go_at_call 56; refine HP.out.mono ?_; rintro e w1 ⟨rfl, hb1⟩) | (go_at_call 57; refine (HF.out _ hb1).mono ?_; rintro e w2 ⟨rfl, hb2⟩))
      go_ret2
      exact ⟨by rw [HN.out]; rfl, hb1.trans (hb2.mono hb1.size)⟩
    · have o1 : (Lib.itoa v == s.toList) = false := by rw [toList_dataN]; simpa using hq
      have HN : Hid (numL s.data.toList = none) := by show _ = _; unfold numL; rw [hp]; simp [hq]
      clear hp hq
      go_enter Tryz.func52, Tryz.ntmps52
      go_wp2_with (first | (go_at_call 56; refine HP.out.mono ?_; rintro e w1 ⟨rfl, hb1⟩) | (go_at_call 57; refine (HF.out _ hb1).mono ?_; rintro e w2 ⟨rfl, hb2⟩))
      go_ret2
      exact ⟨by rw [HN.out]; rfl, hb1.trans (hb2.mono hb1.size)⟩
  ·
    obtain ⟨tp, pv, hvar⟩ := hG.2.1
    have HP : Hid (Calls Tryz.prog 56 #[.string s, .int .i64 10, .int .i64 64] w fun e w' => ∃ N, e = .returned (.tuple #[.int .i64 0, .iface 142 (.pointer (some ⟨N, 0, none⟩))]) ∧ Below w.heap.size w w') := by
      refine (Tryz.strconv_ParseInt_10_at64_bad_var s (by omega) (fun v => by rw [hp]; simp) (by rw [hp]; simp) tp pv w hvar).mono ?_
      rintro e w' ⟨N, rfl, _, _, hb⟩
      exact ⟨N, rfl, hb⟩
    have HN : Hid (numL s.data.toList = none) := by show _ = _; unfold numL; rw [hp]
    clear hp
    go_enter Tryz.func52, Tryz.ntmps52
    go_wp2_with (go_at_call 56; refine HP.out.mono ?_; rintro e w1 ⟨N, rfl, hb1⟩)
    go_ret2
    exact ⟨by rw [HN.out]; rfl, hb1⟩
  ·
    obtain ⟨tp, pv, hvar⟩ := hG.2.2
    have HP : Hid (∃ x, Calls Tryz.prog 56 #[.string s, .int .i64 10, .int .i64 64] w fun e w' => ∃ N, e = .returned (.tuple #[.int .i64 x, .iface 142 (.pointer (some ⟨N, 0, none⟩))]) ∧ Below w.heap.size w w') := by
      refine ⟨Lib.intSat 64 s.data.toList, (Tryz.strconv_ParseInt_10_at64_range_var s (by omega) hp tp pv w hvar).mono ?_⟩
      rintro e w' ⟨N, rfl, _, _, hb⟩
      exact ⟨N, rfl, hb⟩
    have HN : Hid (numL s.data.toList = none) := by show _ = _; unfold numL; rw [hp]
    clear hp
    obtain ⟨x, hP⟩ := HP.out
    have HQ : Hid (Calls Tryz.prog 56 #[.string s, .int .i64 10, .int .i64 64] w fun e w' => ∃ N, e = .returned (.tuple #[.int .i64 x, .iface 142 (.pointer (some ⟨N, 0, none⟩))]) ∧ Below w.heap.size w w') := hP
    clear HP hP
    go_enter Tryz.func52, Tryz.ntmps52
    go_wp2_with (go_at_call 56; refine HQ.out.mono ?_; rintro e w1 ⟨N, rfl, hb1⟩)
    go_ret2
    exact ⟨by rw [HN.out]; rfl, hb1⟩
theorem number_any (s : ByteArray) (w : World) (hs : s.size ≤ 2000) (hG : Glob w) :
    Calls Tryz.prog 52 #[.string s] w fun e w' => e = .returned (.tuple #[.int .i64 ((numL s.data.toList).getD 0), .bool (numL s.data.toList).isSome]) ∧ Below w.heap.size w w' := number_any' s w (by omega) hG
end Go.Proofs.YtheadpemckoljaaGreatDoor
