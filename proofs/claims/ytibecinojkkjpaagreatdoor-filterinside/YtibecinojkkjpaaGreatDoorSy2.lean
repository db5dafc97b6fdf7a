/-
  package signs: a reader anywhere at the head of a block, its next sign; which texts are numbers. Conditions: none.
-/
import Derived.Test.YtibecinojkkjpaaGreatDoorSy1
import Derived.Lib.AppendIntMem
import Derived.Lib.AtoiErrMem
import Derived.Lib.ParseIntBTie
namespace Go.Proofs.YtibecinojkkjpaaGreatDoor
open Go.RowKit Go.Extern.Stop Go.Stop Go.Extern

/-- A reader that stands first in block b: what is left of its signs, and how many bytes its text has. -/
structure RdAt (w : World) (b : Nat) (T : TypeId) (n : Nat) (rest : List Value) (v : Value) (L : List (List UInt8 × Nat)) : Prop where
  blk : w.heap[b]? = some (.cells (v :: .string ⟨#[]⟩ :: .int .i64 n :: rest).toArray T (0, 0))
  row : Seg w 49 2 v L.length (flt sgc L)
  ne : v.ownBlock ≠ some b
section
variable {w w' : World} {b : Nat} {T : TypeId} {n : Nat} {rest : List Value} {v : Value} {L : List (List UInt8 × Nat)}
theorem RdAt.lt (h : RdAt w b T n rest v L) : b < w.heap.size := lt_of_block h.blk
theorem RdAt.cells (h : RdAt w b T n rest v L) : w.cell? ⟨b, 0, none⟩ = some v ∧ w.cell? ⟨b, 1, none⟩ = some (.string ⟨#[]⟩) ∧ w.cell? ⟨b, 2, none⟩ = some (.int .i64 n) ∧ w.frozen? ⟨b, 0, none⟩ = false := by
  have hb := h.blk
  refine ⟨?_, ?_, ?_, ?_⟩
  all_goals simp [World.cell?, World.frozen?, hb]
theorem RdAt.kept (h : RdAt w b T n rest v L) (hb : w'.heap[b]? = w.heap[b]?) (hv : ∀ k, v.ownBlock = some k → w'.heap[k]? = w.heap[k]?) : RdAt w' b T n rest v L := ⟨hb.trans h.blk, h.row.kept hv, h.ne⟩
theorem RdAt.below (h : RdAt w b T n rest v L) (hb : Below w.heap.size w w') : RdAt w' b T n rest v L := h.kept (hb.block b h.lt) fun k hk => hb.block k (h.row.lt hk)
theorem RdAt.ot {S : Nat → Prop} (h : RdAt w b T n rest v L) (ho : Ot S w w') (hb : ¬ S b) (hv : ∀ k, v.ownBlock = some k → ¬ S k) : RdAt w' b T n rest v L := h.kept (ho.block b h.lt hb) fun k hk => ho.block k (h.row.lt hk) (hv k hk)
theorem RdAt.set {v' : Value} {L' : List (List UInt8 × Nat)} (h : RdAt w b T n rest v L) (hv : Seg w 49 2 v' L'.length (flt sgc L')) (hne : v'.ownBlock ≠ some b) : RdAt (w.setCell ⟨b, 0, none⟩ v') b T n rest v' L' :=
  ⟨by rw [heap_setCell_here h.blk v']; simp, hv.setCell (p := ⟨b, 0, none⟩) hne _, hne⟩
end
theorem sizeSign : (Tryz.prog.info? 49).map (·.size) = some 2 := by kernel_rfl
def endS (n : Nat) : List UInt8 × Nat := ([], n)
def sgV (x : List UInt8 × Nat) : Value := .agg #[strV x.1, .int .i64 x.2]
theorem seg_tail {w : World} {g off cap : Nat} {x : List UInt8 × Nat} {L : List (List UInt8 × Nat)} (h : Seg w 49 2 (.slice (some ⟨g, off, none⟩) (L.length + 1) cap) (L.length + 1) (flt sgc (x :: L))) (off' cap' : Nat) (ho : off' = off + 2 ∧ cap' = cap - 1 ∨ cap = 1 ∧ off' = off ∧ cap' = 0) : Seg w 49 2 (.slice (some ⟨g, off', none⟩) L.length cap') L.length (flt sgc L) := by
  have := Seg.drop (w := w) (e := 49) (k := 2) (n := L.length + 1) (m := 1) h (by omega) off' (by omega)
  rw [flt_drop sgc 2 sgc_len] at this
  have hc : cap' = cap - 1 := by omega
  rw [hc]
  simpa using this
set_option maxHeartbeats 2000000 in
theorem sgnext_any {b : Nat} {T : TypeId} {n : Nat} {rest : List Value} {v : Value} {L : List (List UInt8 × Nat)} (w : World) (h : RdAt w b T n rest v L) :
    Calls Tryz.prog 17 #[.pointer (some ⟨b, 0, none⟩)] w fun e w' => e = .returned (sgV (L.headD (endS n))) ∧ ∃ v', RdAt w' b T n rest v' L.tail ∧ v'.ownBlock = v.ownBlock ∧ Ot (· = b) w w' := by
  have H : Hid (RdAt w b T n rest v L) := h
  have hb := h.lt
  obtain ⟨c0, c1, c2, f0⟩ := h.cells
  cases L with
  | nil =>
    obtain ⟨x, cap, rfl⟩ : ∃ x cap, v = .slice x 0 cap := by rcases h.row.form with ⟨h, _⟩ | ⟨b, o, c, h, _⟩ <;> exact ⟨_, _, h⟩
    clear h
    go_enter Tryz.func17, Tryz.ntmps17
    go_wp2
    (try simp only [Exit.inBlock, Exit.then])
    refine bodyPost_ret (v := sgV (endS n)) ?_ rfl ⟨rfl, .slice x 0 cap, H.out.below ?_, rfl, Ot.of_below ?_⟩
    · exact results_cell_row rfl _ _ w.heap.size 49 _ (0, 0) _ rfl (new_block _ _) Tryz.underlying49 rfl sizeSign
    · exact below_alloc_ (Below.refl _ _) _
    · exact below_alloc_ (Below.refl _ _) _
  | cons x L =>
    obtain ⟨g, off, cap, rfl, hn, hx, hlt, hcs⟩ := h.row.some (by simp)
    have k0 : w.cell? ⟨g, off, none⟩ = some (strV x.1) := hcs 0 _ (by simp [flt, sgc])
    have k1 : w.cell? ⟨g, off + 1, none⟩ = some (.int .i64 x.2) := hcs 1 _ (by simp [flt, sgc])
    have hsv : strV x.1 = .string ⟨x.1.toArray⟩ := rfl
    rw [hsv] at k0
    clear hcs h hsv
    go_enter Tryz.func17, Tryz.ntmps17
    go_wp2
    all_goals (try simp only [Exit.inBlock, Exit.then])
    all_goals have hgb : g ≠ b := fun e => H.out.ne (by rw [e]; rfl)
    · have hc : cap = 1 := by assumption
      refine bodyPost_ret (v := sgV x) ?_ rfl ⟨rfl, .slice (some ⟨g, off, none⟩) L.length 0, RdAt.below (H.out.set (seg_tail H.out.row off 0 (Or.inr ⟨hc, rfl, rfl⟩)) (by simp [Value.ownBlock, hgb])) ?_, rfl, ?_⟩
      · exact results_cell_row rfl _ _ w.heap.size 49 _ (0, 0) _ rfl ((Below.heap_alloc _ _ _ (by simp)).trans (new_block_ (by simp))) Tryz.underlying49 rfl sizeSign
      · exact below_alloc_ (below_alloc_ (Below.refl _ _) _) _
      · exact Ot.alloc (Ot.alloc (Ot.setCell (S := fun k => k = b) (Ot.refl _ _) (p := ⟨b, 0, none⟩) (Or.inl rfl) _) _) _
    · refine bodyPost_ret (v := sgV x) ?_ rfl ⟨rfl, .slice (some ⟨g, off + 2, none⟩) L.length (cap - 1), RdAt.below (H.out.set (seg_tail H.out.row (off + 2) (cap - 1) (Or.inl ⟨rfl, rfl⟩)) (by simp [Value.ownBlock, hgb])) ?_, rfl, ?_⟩
      · exact results_cell_row rfl _ _ w.heap.size 49 _ (0, 0) _ rfl ((Below.heap_alloc _ _ _ (by simp)).trans (new_block_ (by simp))) Tryz.underlying49 rfl sizeSign
      · exact below_alloc_ (below_alloc_ (Below.refl _ _) _) _
      · exact Ot.alloc (Ot.alloc (Ot.setCell (S := fun k => k = b) (Ot.refl _ _) (p := ⟨b, 0, none⟩) (Or.inl rfl) _) _) _
/-- What strconv has laid: its powers of ten, its two errors. -/
def Glob (w : World) : Prop := Lib.TabIs Tryz.prog w "internal/strconv.uint64pow10" .u64 Lib.pow10Tab ∧ (∃ tp p, w.var? Tryz.prog "strconv.ErrSyntax" = some #[.iface tp p]) ∧ ∃ tp p, w.var? Tryz.prog "strconv.ErrRange" = some #[.iface tp p]
theorem var_kept {w w' : World} {s : String} {a : Array Value} (h : w.var? Tryz.prog s = some a) (hb : Below w.heap.size w w') : w'.var? Tryz.prog s = some a := by
  unfold World.var? at h ⊢
  cases hg : Tryz.prog.globalNamed s with
  | none => rw [hg] at h; exact h
  | some g =>
    rw [hg] at h
    simp only [Option.bind_some] at h ⊢
    have hlt : g < w.heap.size := by
      rcases Nat.lt_or_ge g w.heap.size with h2 | h2
      · exact h2
      · rw [Array.getElem?_eq_none h2] at h; simp at h
    rw [hb.block g hlt]
    exact h
theorem Glob.below {w w' : World} (h : Glob w) (hb : Below w.heap.size w w') : Glob w' :=
  ⟨var_kept h.1 hb, h.2.1.imp fun _ h => h.imp fun _ h => var_kept h hb, h.2.2.imp fun _ h => h.imp fun _ h => var_kept h hb⟩
/-- The number that a word is. -/
def numL (l : List UInt8) : Option Int := match Lib.parseIntB 64 l with | .ok v => if Lib.itoa v = l then some v else none | _ => none
theorem number_any (s : ByteArray) (w : World) (hs : s.size ≤ 2000) (hG : Glob w) :
    Calls Tryz.prog 62 #[.string s] w fun e w' => e = .returned (.tuple #[.int .i64 ((numL s.data.toList).getD 0), .bool (numL s.data.toList).isSome]) ∧ Below w.heap.size w w' := by
  rcases hp : Lib.parseIntB 64 s.data.toList with v | _ | _
  ·
    have hv : -9223372036854775808 ≤ v ∧ v ≤ 9223372036854775807 := by have := Lib.parseIntB_bounds hp; simp at this; omega
    have HP : Hid (Calls Tryz.prog 55 #[.string s, .int .i64 10, .int .i64 64] w fun e w' => e = .returned (.tuple #[.int .i64 v, .nilIface]) ∧ Below w.heap.size w w') := by
      refine (Tryz.strconv_ParseInt_10_at64_ok s (by omega) v hp w).mono ?_
      rintro e w' ⟨rfl, rfl | ⟨t, rfl⟩⟩
      · exact ⟨rfl, Below.refl _ _⟩
      · exact ⟨rfl, Lib.bytesWorld_below _ _ _⟩
    have HF : Hid (∀ w1, Below w.heap.size w w1 → Calls Tryz.prog 56 #[.int .i64 v, .int .i64 10] w1 fun e w' => e = .returned (.string ⟨(Lib.itoa v).toArray⟩) ∧ Below w1.heap.size w1 w') := by
      intro w1 hb1
      refine (Tryz.strconv_FormatInt_10 v hv.1 hv.2 w1 (hG.below hb1).1).mono ?_
      rintro e w' ⟨rfl, k, os, rfl⟩
      exact ⟨rfl, Lib.below_grow _ _ (Nat.le_refl _) _ _⟩
    by_cases hq : Lib.itoa v = s.data.toList
    · have o1 : (Lib.itoa v == s.toList) = true := by rw [toList_data]; simpa using hq
      have HN : Hid (numL s.data.toList = some v) := by show _ = _; unfold numL; rw [hp]; simp [hq]
      clear hp hq
      go_enter Tryz.func62, Tryz.ntmps62
      go_wp2_with (first | (go_at_call 55; refine HP.out.mono ?_; rintro e w1 ⟨rfl, hb1⟩) | (go_at_call 56; refine (HF.out _ hb1).mono ?_; rintro e w2 ⟨rfl, hb2⟩))
      go_ret2
      exact ⟨by rw [HN.out]; rfl, hb1.trans (hb2.mono hb1.size)⟩
    · have o1 : (Lib.itoa v == s.toList) = false := by rw [toList_data]; simpa using hq
      have HN : Hid (numL s.data.toList = none) := by show _ = _; unfold numL; rw [hp]; simp [hq]
      clear hp hq
      go_enter Tryz.func62, Tryz.ntmps62
      go_wp2_with (first | (go_at_call 55; refine HP.out.mono ?_; rintro e w1 ⟨rfl, hb1⟩) | (go_at_call 56; refine (HF.out _ hb1).mono ?_; rintro e w2 ⟨rfl, hb2⟩))
      go_ret2
      exact ⟨by rw [HN.out]; rfl, hb1.trans (hb2.mono hb1.size)⟩
  ·
    obtain ⟨tp, pv, hvar⟩ := hG.2.1
    have HP : Hid (Calls Tryz.prog 55 #[.string s, .int .i64 10, .int .i64 64] w fun e w' => ∃ N, e = .returned (.tuple #[.int .i64 0, .iface 177 (.pointer (some ⟨N, 0, none⟩))]) ∧ Below w.heap.size w w') := by
      refine (Tryz.strconv_ParseInt_10_at64_bad_var s (by omega) (fun v => by rw [hp]; simp) (by rw [hp]; simp) tp pv w hvar).mono ?_
      rintro e w' ⟨N, rfl, _, _, hb⟩
      exact ⟨N, rfl, hb⟩
    have HN : Hid (numL s.data.toList = none) := by show _ = _; unfold numL; rw [hp]
    clear hp
    go_enter Tryz.func62, Tryz.ntmps62
    go_wp2_with (go_at_call 55; refine HP.out.mono ?_; rintro e w1 ⟨N, rfl, hb1⟩)
    go_ret2
    exact ⟨by rw [HN.out]; rfl, hb1⟩
  ·
    obtain ⟨tp, pv, hvar⟩ := hG.2.2
    have HP : Hid (∃ x, Calls Tryz.prog 55 #[.string s, .int .i64 10, .int .i64 64] w fun e w' => ∃ N, e = .returned (.tuple #[.int .i64 x, .iface 177 (.pointer (some ⟨N, 0, none⟩))]) ∧ Below w.heap.size w w') := by
      refine ⟨Lib.intSat 64 s.data.toList, (Tryz.strconv_ParseInt_10_at64_range_var s (by omega) hp tp pv w hvar).mono ?_⟩
      rintro e w' ⟨N, rfl, _, _, hb⟩
      exact ⟨N, rfl, hb⟩
    have HN : Hid (numL s.data.toList = none) := by show _ = _; unfold numL; rw [hp]
    clear hp
    obtain ⟨x, hP⟩ := HP.out
    have HQ : Hid (Calls Tryz.prog 55 #[.string s, .int .i64 10, .int .i64 64] w fun e w' => ∃ N, e = .returned (.tuple #[.int .i64 x, .iface 177 (.pointer (some ⟨N, 0, none⟩))]) ∧ Below w.heap.size w w') := hP
    clear HP hP
    go_enter Tryz.func62, Tryz.ntmps62
    go_wp2_with (go_at_call 55; refine HQ.out.mono ?_; rintro e w1 ⟨N, rfl, hb1⟩)
    go_ret2
    exact ⟨by rw [HN.out]; rfl, hb1⟩
end Go.Proofs.YtibecinojkkjpaaGreatDoor
