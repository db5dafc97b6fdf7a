/-
  package signs: which texts are numbers. Conditions: what strconv lays is laid; the text has 20000 bytes at most.
  package signs: a reader anywhere at the head of a block, its next sign; which texts are numbers. Conditions: none.
  package plant: a reader's numbers, where numbers stand. Conditions: the words are numbers; few of them.
  package plant: a reader's numbers, whatever stands there: so many numbers, or an error. Conditions: no sign has more than 2000 bytes; what strconv lays is laid; few numbers are asked for.
  package plant: a Fifo that a text tells. Conditions: its two numbers are room that may be.
-/
import Derived.Test.YtfakjedolecdcaaGreatDoorShelf
import Derived.Test.YtfakjedolecdcaaGreatDoorSg
import Derived.Lib.AppendIntMem
import Derived.Lib.AtoiErrMem
import Derived.Lib.ParseIntBTie
import Derived.Lib.OthersKept
import Derived.Test.YtfakjedolecdcaaGreatDoorU35
import Derived.Test.YtfakjedolecdcaaGreatDoorU8
namespace Go.Proofs.YtfakjedolecdcaaGreatDoor
open Go.RowKit Go.Extern.Stop Go.Stop Go.Extern

theorem toList_dataN (b : ByteArray) : b.toList = b.data.toList := ByteArray.toList_eq b
/-- What strconv has laid: its powers of ten, its two errors. -/
def Glob (w : World) : Prop := Lib.TabIs Tryz.prog w "internal/strconv.uint64pow10" .u64 Lib.pow10Tab ∧ (∃ tp p, w.var? Tryz.prog "strconv.ErrSyntax" = some #[.iface tp p]) ∧ ∃ tp p, w.var? Tryz.prog "strconv.ErrRange" = some #[.iface tp p]
theorem var_kept {w w' : World} {s : String} {a : Array Value} (h : w.var? Tryz.prog s = some a) (hb : Below w.heap.size w w') : w'.var? Tryz.prog s = some a := by
  unfold World.var? at h ⊢
  cases hg : Tryz.prog.globalNamed s with
  | none => rw [hg] at h; exact h
  | some g =>
    rw [hg] at h
    simp only [Option.bind_some] at h ⊢
    have hlt : g < w.heap.size := by
      rcases Nat.lt_or_ge g w.heap.size with h2 | h2
      · exact h2
      · rw [Array.getElem?_eq_none h2] at h; simp at h
    rw [hb.block g hlt]
    exact h
theorem Glob.below {w w' : World} (h : Glob w) (hb : Below w.heap.size w w') : Glob w' :=
  ⟨var_kept h.1 hb, h.2.1.imp fun _ h => h.imp fun _ h => var_kept h hb, h.2.2.imp fun _ h => h.imp fun _ h => var_kept h hb⟩
/-- The number that a word is. -/
def numL (l : List UInt8) : Option Int := match Lib.parseIntB 64 l with | .ok v => if Lib.itoa v = l then some v else none | _ => none
theorem number_any' (s : ByteArray) (w : World) (hs : s.size ≤ 20000) (hG : Glob w) :
    Calls Tryz.prog 62 #[.string s] w fun e w' => e = .returned (.tuple #[.int .i64 ((numL s.data.toList).getD 0), .bool (numL s.data.toList).isSome]) ∧ Below w.heap.size w w' := by
  rcases hp : Lib.parseIntB 64 s.data.toList with v | _ | _
  ·
    have hv : -9223372036854775808 ≤ v ∧ v ≤ 9223372036854775807 := by have := Lib.parseIntB_bounds hp; simp at this; omega
    have HP : Hid (Calls Tryz.prog 78 #[.string s, .int .i64 10, .int .i64 64] w fun e w' => e = .returned (.tuple #[.int .i64 v, .nilIface]) ∧ Below w.heap.size w w') := by
      refine (Tryz.strconv_ParseInt_10_at64_ok s (by omega) v hp w).mono ?_
      rintro e w' ⟨rfl, rfl | ⟨t, rfl⟩⟩
      · exact ⟨rfl, Below.refl _ _⟩
      · exact ⟨rfl, Lib.bytesWorld_below _ _ _⟩
    have HF : Hid (∀ w1, Below w.heap.size w w1 → Calls Tryz.prog 79 #[.int .i64 v, .int .i64 10] w1 fun e w' => e = .returned (.string ⟨(Lib.itoa v).toArray⟩) ∧ Below w1.heap.size w1 w') := by
      intro w1 hb1
      refine (Tryz.strconv_FormatInt_10 v hv.1 hv.2 w1 (hG.below hb1).1).mono ?_
      rintro e w' ⟨rfl, k, os, rfl⟩
      exact ⟨rfl, Lib.below_grow _ _ (Nat.le_refl _) _ _⟩
    by_cases hq : Lib.itoa v = s.data.toList
    · have o1 : (Lib.itoa v == s.toList) = true := by rw [toList_dataN]; simpa using hq
      have HN : Hid (numL s.data.toList = some v) := by show _ = _; unfold numL; rw [hp]; simp [hq]
      clear hp hq
      go_enter Tryz.func62, Tryz.ntmps62
      go_wp2_with (first | (go_at_call 78; refine HP.out.mono ?_; rintro e w1 ⟨rfl, hb1⟩) | (go_at_call 79; refine (HF.out _ hb1).mono ?_; rintro e w2 ⟨rfl, hb2⟩))
      go_ret2
      exact ⟨by rw [HN.out]; rfl, hb1.trans (hb2.mono hb1.size)⟩
    · have o1 : (Lib.itoa v == s.toList) = false := by rw [toList_dataN]; simpa using hq
      have HN : Hid (numL s.data.toList = none) := by show _ = _; unfold numL; rw [hp]; simp [hq]
      clear hp hq
      go_enter Tryz.func62, Tryz.ntmps62
      go_wp2_with (first | (go_at_call 78; refine HP.out.mono ?_; rintro e w1 ⟨rfl, hb1⟩) | (go_at_call 79; refine (HF.out _ hb1).mono ?_; rintro e w2 ⟨rfl, hb2⟩))
      go_ret2
      exact ⟨by rw [HN.out]; rfl, hb1.trans (hb2.mono hb1.size)⟩
  ·
    obtain ⟨tp, pv, hvar⟩ := hG.2.1
    have HP : Hid (Calls Tryz.prog 78 #[.string s, .int .i64 10, .int .i64 64] w fun e w' => ∃ N, e = .returned (.tuple #[.int .i64 0, .iface 207 (.pointer (some ⟨N, 0, none⟩))]) ∧ Below w.heap.size w w') := by
      refine (Tryz.strconv_ParseInt_10_at64_bad_var s (by omega) (fun v => by rw [hp]; simp) (by rw [hp]; simp) tp pv w hvar).mono ?_
      rintro e w' ⟨N, rfl, _, _, hb⟩
      exact ⟨N, rfl, hb⟩
    have HN : Hid (numL s.data.toList = none) := by show _ = _; unfold numL; rw [hp]
    clear hp
    go_enter Tryz.func62, Tryz.ntmps62
    go_wp2_with (go_at_call 78; refine HP.out.mono ?_; rintro e w1 ⟨N, rfl, hb1⟩)
    go_ret2
    exact ⟨by rw [HN.out]; rfl, hb1⟩
  ·
    obtain ⟨tp, pv, hvar⟩ := hG.2.2
    have HP : Hid (∃ x, Calls Tryz.prog 78 #[.string s, .int .i64 10, .int .i64 64] w fun e w' => ∃ N, e = .returned (.tuple #[.int .i64 x, .iface 207 (.pointer (some ⟨N, 0, none⟩))]) ∧ Below w.heap.size w w') := by
      refine ⟨Lib.intSat 64 s.data.toList, (Tryz.strconv_ParseInt_10_at64_range_var s (by omega) hp tp pv w hvar).mono ?_⟩
      rintro e w' ⟨N, rfl, _, _, hb⟩
      exact ⟨N, rfl, hb⟩
    have HN : Hid (numL s.data.toList = none) := by show _ = _; unfold numL; rw [hp]
    clear hp
    obtain ⟨x, hP⟩ := HP.out
    have HQ : Hid (Calls Tryz.prog 78 #[.string s, .int .i64 10, .int .i64 64] w fun e w' => ∃ N, e = .returned (.tuple #[.int .i64 x, .iface 207 (.pointer (some ⟨N, 0, none⟩))]) ∧ Below w.heap.size w w') := hP
    clear HP hP
    go_enter Tryz.func62, Tryz.ntmps62
    go_wp2_with (go_at_call 78; refine HQ.out.mono ?_; rintro e w1 ⟨N, rfl, hb1⟩)
    go_ret2
    exact ⟨by rw [HN.out]; rfl, hb1⟩
theorem number_any (s : ByteArray) (w : World) (hs : s.size ≤ 2000) (hG : Glob w) :
    Calls Tryz.prog 62 #[.string s] w fun e w' => e = .returned (.tuple #[.int .i64 ((numL s.data.toList).getD 0), .bool (numL s.data.toList).isSome]) ∧ Below w.heap.size w w' := number_any' s w (by omega) hG
end Go.Proofs.YtfakjedolecdcaaGreatDoor
namespace Go.Proofs.YtfakjedolecdcaaGreatDoor
open Go.RowKit Go.Extern.Stop Go.Stop Go.Extern

/-- A reader that stands first in block b: what is left of its signs, and how many bytes its text has. -/
structure RdAt (w : World) (b : Nat) (T : TypeId) (n : Nat) (rest : List Value) (v : Value) (L : List (List UInt8 × Nat)) : Prop where
  blk : w.heap[b]? = some (.cells (v :: .string ⟨#[]⟩ :: .int .i64 n :: rest).toArray T (0, 0))
  row : Seg w 60 2 v L.length (flt sgc L)
  ne : v.ownBlock ≠ some b
section
variable {w w' : World} {b : Nat} {T : TypeId} {n : Nat} {rest : List Value} {v : Value} {L : List (List UInt8 × Nat)}
theorem RdAt.lt (h : RdAt w b T n rest v L) : b < w.heap.size := lt_of_block h.blk
theorem RdAt.cells (h : RdAt w b T n rest v L) : w.cell? ⟨b, 0, none⟩ = some v ∧ w.cell? ⟨b, 1, none⟩ = some (.string ⟨#[]⟩) ∧ w.cell? ⟨b, 2, none⟩ = some (.int .i64 n) ∧ w.frozen? ⟨b, 0, none⟩ = false := by
  have hb := h.blk
  refine ⟨?_, ?_, ?_, ?_⟩
  all_goals simp [World.cell?, World.frozen?, hb]
theorem RdAt.kept (h : RdAt w b T n rest v L) (hb : w'.heap[b]? = w.heap[b]?) (hv : ∀ k, v.ownBlock = some k → w'.heap[k]? = w.heap[k]?) : RdAt w' b T n rest v L := ⟨hb.trans h.blk, h.row.kept hv, h.ne⟩
theorem RdAt.below (h : RdAt w b T n rest v L) (hb : Below w.heap.size w w') : RdAt w' b T n rest v L := h.kept (hb.block b h.lt) fun k hk => hb.block k (h.row.lt hk)
theorem RdAt.ot {S : Nat → Prop} (h : RdAt w b T n rest v L) (ho : Ot S w w') (hb : ¬ S b) (hv : ∀ k, v.ownBlock = some k → ¬ S k) : RdAt w' b T n rest v L := h.kept (ho.block b h.lt hb) fun k hk => ho.block k (h.row.lt hk) (hv k hk)
theorem RdAt.set {v' : Value} {L' : List (List UInt8 × Nat)} (h : RdAt w b T n rest v L) (hv : Seg w 60 2 v' L'.length (flt sgc L')) (hne : v'.ownBlock ≠ some b) : RdAt (w.setCell ⟨b, 0, none⟩ v') b T n rest v' L' :=
  ⟨by rw [heap_setCell_here h.blk v']; simp, hv.setCell (p := ⟨b, 0, none⟩) hne _, hne⟩
end
theorem sizeSign : (Tryz.prog.info? 60).map (·.size) = some 2 := by kernel_rfl
def endS (n : Nat) : List UInt8 × Nat := ([], n)
def sgV (x : List UInt8 × Nat) : Value := .agg #[strV x.1, .int .i64 x.2]
theorem seg_tail {w : World} {g off cap : Nat} {x : List UInt8 × Nat} {L : List (List UInt8 × Nat)} (h : Seg w 60 2 (.slice (some ⟨g, off, none⟩) (L.length + 1) cap) (L.length + 1) (flt sgc (x :: L))) (off' cap' : Nat) (ho : off' = off + 2 ∧ cap' = cap - 1 ∨ cap = 1 ∧ off' = off ∧ cap' = 0) : Seg w 60 2 (.slice (some ⟨g, off', none⟩) L.length cap') L.length (flt sgc L) := by
  have := Seg.drop (w := w) (e := 60) (k := 2) (n := L.length + 1) (m := 1) h (by omega) off' (by omega)
  rw [flt_drop sgc 2 sgc_len] at this
  have hc : cap' = cap - 1 := by omega
  rw [hc]
  simpa using this
set_option maxHeartbeats 2000000 in
theorem sgnext_any {b : Nat} {T : TypeId} {n : Nat} {rest : List Value} {v : Value} {L : List (List UInt8 × Nat)} (w : World) (h : RdAt w b T n rest v L) :
    Calls Tryz.prog 20 #[.pointer (some ⟨b, 0, none⟩)] w fun e w' => e = .returned (sgV (L.headD (endS n))) ∧ ∃ v', RdAt w' b T n rest v' L.tail ∧ v'.ownBlock = v.ownBlock ∧ Ot (· = b) w w' := by
  have H : Hid (RdAt w b T n rest v L) := h
  have hb := h.lt
  obtain ⟨c0, c1, c2, f0⟩ := h.cells
  cases L with
  | nil =>
    obtain ⟨x, cap, rfl⟩ : ∃ x cap, v = .slice x 0 cap := by rcases h.row.form with ⟨h, _⟩ | ⟨b, o, c, h, _⟩ <;> exact ⟨_, _, h⟩
    clear h
    go_enter Tryz.func20, Tryz.ntmps20
    go_wp2
    (try simp only [Exit.inBlock, Exit.then])
    refine bodyPost_ret (v := sgV (endS n)) ?_ rfl ⟨rfl, .slice x 0 cap, H.out.below ?_, rfl, Ot.of_below ?_⟩
    · exact results_cell_row rfl _ _ w.heap.size 60 _ (0, 0) _ rfl (new_block _ _) Tryz.underlying60 rfl sizeSign
    · exact below_alloc_ (Below.refl _ _) _
    · exact below_alloc_ (Below.refl _ _) _
  | cons x L =>
    obtain ⟨g, off, cap, rfl, hn, hx, hlt, hcs⟩ := h.row.some (by simp)
    have k0 : w.cell? ⟨g, off, none⟩ = some (strV x.1) := hcs 0 _ (by simp [flt, sgc])
    have k1 : w.cell? ⟨g, off + 1, none⟩ = some (.int .i64 x.2) := hcs 1 _ (by simp [flt, sgc])
    have hsv : strV x.1 = .string ⟨x.1.toArray⟩ := rfl
    rw [hsv] at k0
    clear hcs h hsv
    go_enter Tryz.func20, Tryz.ntmps20
    go_wp2
    all_goals (try simp only [Exit.inBlock, Exit.then])
    all_goals have hgb : g ≠ b := fun e => H.out.ne (by rw [e]; rfl)
    · have hc : cap = 1 := by assumption
      refine bodyPost_ret (v := sgV x) ?_ rfl ⟨rfl, .slice (some ⟨g, off, none⟩) L.length 0, RdAt.below (H.out.set (seg_tail H.out.row off 0 (Or.inr ⟨hc, rfl, rfl⟩)) (by simp [Value.ownBlock, hgb])) ?_, rfl, ?_⟩
      · exact results_cell_row rfl _ _ w.heap.size 60 _ (0, 0) _ rfl ((Below.heap_alloc _ _ _ (by simp)).trans (new_block_ (by simp))) Tryz.underlying60 rfl sizeSign
      · exact below_alloc_ (below_alloc_ (Below.refl _ _) _) _
      · exact Ot.alloc (Ot.alloc (Ot.setCell (S := fun k => k = b) (Ot.refl _ _) (p := ⟨b, 0, none⟩) (Or.inl rfl) _) _) _
    · refine bodyPost_ret (v := sgV x) ?_ rfl ⟨rfl, .slice (some ⟨g, off + 2, none⟩) L.length (cap - 1), RdAt.below (H.out.set (seg_tail H.out.row (off + 2) (cap - 1) (Or.inl ⟨rfl, rfl⟩)) (by simp [Value.ownBlock, hgb])) ?_, rfl, ?_⟩
      · exact results_cell_row rfl _ _ w.heap.size 60 _ (0, 0) _ rfl ((Below.heap_alloc _ _ _ (by simp)).trans (new_block_ (by simp))) Tryz.underlying60 rfl sizeSign
      · exact below_alloc_ (below_alloc_ (Below.refl _ _) _) _
      · exact Ot.alloc (Ot.alloc (Ot.setCell (S := fun k => k = b) (Ot.refl _ _) (p := ⟨b, 0, none⟩) (Or.inl rfl) _) _) _
end Go.Proofs.YtfakjedolecdcaaGreatDoor
namespace Go.Proofs.YtfakjedolecdcaaGreatDoor
open Go.RowKit Go.Extern.Stop Go.Stop Go.Extern

theorem infoIntP : (Tryz.prog.info? 3).map (fun i => (i.zero, i.size, i.bytes)) = some (some (.int .i64 0), 1, 8) := by kernel_rfl
/-- The numbers that words are. -/
def numsL (L : List (List UInt8 × Nat)) : List Int := L.map fun x => (numL x.1).getD 0
set_option maxHeartbeats 2000000 in
theorem numbers_yes {b : Nat} {n : Nat} {rest : List Value} {v : Value} {L R : List (List UInt8 × Nat)} (w : World) (h : RdAt w b 65 n rest v (L ++ R)) (hB : ∀ w', Ot (fun k => k = b) w w' → Glob w') (hn : ∀ x ∈ L, (numL x.1).isSome = true ∧ x.1.length ≤ 2000) (hl : L.length ≤ 10) :
    Calls Tryz.prog 45 #[.pointer (some ⟨b, 0, none⟩), .int .i64 L.length] w fun e w' => ∃ u v', e = .returned (.tuple #[u, .nilIface]) ∧ RdAt w' b 65 n rest v' R ∧ v'.ownBlock = v.ownBlock ∧ Seg w' 3 1 u L.length ((numsL L).map (Value.int .i64)) ∧ (∀ k, u.ownBlock = some k → w.heap.size ≤ k) ∧ Ot (fun k => k = b) w w' := by
  have H : Hid (RdAt w b 65 n rest v (L ++ R)) := h
  have hb := h.lt
  have HN : Hid (∀ x ∈ L, (numL x.1).isSome = true ∧ x.1.length ≤ 2000) := hn
  have HG : Hid (∀ w', Ot (fun k => k = b) w w' → Glob w') := hB
  obtain ⟨i0, hi, hz0, hz1, hz2⟩ := info_parts infoIntP
  clear h hn hB
  generalize hm : L.length = m at *
  have HM : Hid (L.length = m) := hm
  clear hm
  go_enter Tryz.func45, Tryz.ntmps45
  go_wp2_with (at_make; refine wpList_make_own _ rfl _ _ 22 rfl w.heap.size 3 i0 (.int .i64 0) 1 Tryz.underlying22 hi hz0 hz1 _ _ _ m rfl rfl (by omega) (by rw [hz2]; omega) (by unfold maxLen; omega) (Nat.le_refl _) ?_; intro w1 hown1 hgrow1)
  go_loopw [6, 13] (fun o i wr => ∃ (k : Nat) (v' : Value), k ≤ m ∧ i = .int .i64 k ∧ RdAt wr b 65 n rest v' (L.drop k ++ R) ∧ v'.ownBlock = v.ownBlock ∧ Seg wr 3 1 o k ((numsL (L.take k)).map (Value.int .i64)) ∧ (∀ j, o.ownBlock = some j → w.heap.size ≤ j) ∧ Ot (fun k => k = b) w wr) (fun _ i _ => m - (intOf i).toNat)
  case atStart =>
    have hb1 : Below w.heap.size w w1 := (Below.refl _ _).grown hgrow1 (Nat.le_refl _) (by simp)
    exact ⟨0, v, Nat.zero_le _, rfl, H.out.below hb1, rfl, Seg.of_owns hown1, fun j hj => by simp [Value.ownBlock] at hj; omega, Ot.of_below hb1⟩
  case round =>
    clear hown1 hgrow1
    obtain ⟨k, v', hk, rfl, hrd, hvo, hseg, hun, hot⟩ := hrel
    have HR : Hid (RdAt wr b 65 n rest v' (L.drop k ++ R)) := hrd
    have HV : Hid (v'.ownBlock = v.ownBlock) := hvo
    have HS : Hid (Seg wr 3 1 u6 k ((numsL (L.take k)).map (Value.int .i64))) := hseg
    have HU : Hid (∀ j, u6.ownBlock = some j → w.heap.size ≤ j) := hun
    have HOT : Hid (Ot (fun k => k = b) w wr) := hot
    have hws := hot.size
    clear hrd hvo hseg hun hot
    by_cases hlt : k < m
    · obtain ⟨x, hx⟩ : ∃ x, L[k]? = some x := ⟨_, List.getElem?_eq_getElem (by have := HM.out; omega)⟩
      have hdr : L.drop k = x :: L.drop (k + 1) := by
        obtain ⟨h1, h2⟩ := List.getElem?_eq_some_iff.1 hx
        rw [← h2]; exact List.drop_eq_getElem_cons h1
      have HTK : Hid (numsL (L.take (k + 1)) = numsL (L.take k) ++ [(numL x.1).getD 0]) := by
        show _ = _
        rw [List.take_add_one, hx]; simp [numsL]
      obtain ⟨hy, hy2⟩ := HN.out x (List.mem_of_getElem? hx)
      obtain ⟨z, hz⟩ : ∃ z, numL x.1 = some z := Option.isSome_iff_exists.1 hy
      have HNX : Hid (Calls Tryz.prog 20 #[.pointer (some ⟨b, 0, none⟩)] wr fun e w' => e = .returned (.agg #[.string ⟨x.1.toArray⟩, .int .i64 x.2]) ∧ ∃ v2, RdAt w' b 65 n rest v2 (L.drop (k + 1) ++ R) ∧ v2.ownBlock = v.ownBlock ∧ Ot (fun k => k = b) wr w') := by
        refine (sgnext_any wr HR.out).mono ?_
        rw [hdr]
        rintro e w' ⟨rfl, v2, h1, h2, h3⟩
        exact ⟨rfl, v2, h1, h2.trans HV.out, h3⟩
      have HNB : Hid (∀ w1, Ot (fun k => k = b) w w1 → Calls Tryz.prog 62 #[.string ⟨x.1.toArray⟩] w1 fun e w' => e = .returned (.tuple #[.int .i64 z, .bool true]) ∧ Below w1.heap.size w1 w') := by
        intro w1 h1
        refine (number_any ⟨x.1.toArray⟩ w1 (by show x.1.toArray.size ≤ 2000; simpa using hy2) (HG.out w1 h1)).mono ?_
        rw [hz]
        rintro e w' ⟨rfl, h⟩
        exact ⟨rfl, h⟩
      rw [hz] at HTK
      clear hx hdr hy hy2 hz
      go_wp2_with (go_at_call 20; refine HNX.out.mono ?_; rintro e w1 ⟨rfl, v2, hr1, hv1, ho1⟩)
      have ho01 : Ot (fun k => k = b) w (w1.alloc (.cells #[.string ⟨x.1.toArray⟩, .int .i64 x.2] 60)) := (HOT.out.trans ho1).alloc _
      refine (HNB.out _ ho01).mono ?_
      rintro e w2 ⟨rfl, hb2⟩
      have HO2 : Hid (Ot (fun k => k = b) w w2) := ho01.trans (Ot.of_below hb2)
      have HS2 : Hid (Seg w2 3 1 u6 k ((numsL (L.take k)).map (Value.int .i64))) := ((HS.out.oth ho1 (fun j hj e => by have := HU.out j hj; omega)).alloc _).below hb2
      have HR2 : Hid (RdAt w2 b 65 n rest v2 (L.drop (k + 1) ++ R)) := (hr1.below (below_alloc_ (Below.refl _ _) _)).below hb2
      have HV2 : Hid (v2.ownBlock = v.ownBlock) := hv1
      have HVL : Hid (∀ j, v.ownBlock = some j → j < w.heap.size) := fun j hj => by have h := H.out.row.lt hj; exact h
      clear hr1 hv1 ho1 ho01 hb2
      go_wp2_with (at_builtin; refine wpList_append_seg _ rfl (.tmp 29) (.tmp 31) 22 rfl 3 i0 _ 1 8 Tryz.underlying22 hi hz0 hz1 hz2 rfl (by decide) _ _ _ rfl (HS2.out.below (by repeat' (first | with_reducible exact Below.refl _ _ | with_reducible refine Below.drew ?_ | with_reducible refine below_alloc_ ?_ _))) _ 1 1 _ rfl rfl (news_of (new_block_ (by simp))) (by simp [Value.oneCell']) (by decide) (by unfold maxLen; omega) (by omega) _ rfl ?_; intro g goff gcap w3 hs3 hg3 ha3 hl3)
      have hgn : w.heap.size ≤ g := by
        rcases ha3 with ha3 | ha3
        · exact HU.out _ ha3
        · have := HO2.out.size; simp at ha3; omega
      go_roundw
      case rel =>
        refine ⟨k + 1, v2, by omega, by go_num, ?_, HV2.out, ?_, ?_, ?_⟩
        · refine (HR2.out.below (below_alloc_ (Below.refl _ _) _)).kept (hg3.block b (by simp; have := HO2.out.size; omega) (fun e => ?_)) (fun j hj => hg3.block j (by simp; have := HR2.out.row.lt hj; omega) (fun e => ?_))
          · have := HU.out b e.symm; omega
          · have h1 := HU.out j e.symm
            rw [HV2.out] at hj
            have h2 := HVL.out j hj
            omega
        · rw [HTK.out, List.map_append]
          exact hs3
        · intro j hj
          simp only [Value.ownBlock, Option.some.injEq] at hj
          subst hj
          exact hgn
        · exact (HO2.out.alloc _).grown hg3 (fun j hj => Or.inr (HU.out j hj))
      case measure => simp [intOf]; omega
    · obtain rfl : k = m := by omega
      go_wp2
      (try simp only [Exit.inBlock, Exit.then])
      go_ret2
      have e1 : L.drop k = [] := by rw [List.drop_eq_nil_iff]; have := HM.out; omega
      have e2 : L.take k = L := by rw [List.take_of_length_le]; have := HM.out; omega
      have hr := HR.out
      have hs := HS.out
      rw [e1, List.nil_append] at hr
      rw [e2] at hs
      exact ⟨u6, v', rfl, hr, HV.out, hs, HU.out, HOT.out⟩
end Go.Proofs.YtfakjedolecdcaaGreatDoor
namespace Go.Proofs.YtfakjedolecdcaaGreatDoor
open Go.RowKit Go.Extern.Stop Go.Stop Go.Extern

theorem wrongS_any (t : ByteArray) (p c : Int) (w : World) : Calls Tryz.prog 22 #[.agg #[.string t, .int .i64 p], .int .i64 c] w fun e w' => ∃ B, e = .returned (.iface 97 (.pointer (some ⟨B, 0, none⟩))) ∧ Below w.heap.size w w' := by
  go_enter Tryz.func22, Tryz.ntmps22
  go_wp2
  go_ret
  exact ⟨w.heap.size + 1, rfl, below_alloc_ (below_alloc_ (Below.refl _ _) _) _⟩
/-- What a reader leaves. -/
def RdL (w w' : World) (b n : Nat) (rest : List Value) (v : Value) (L : List (List UInt8 × Nat)) (L' : List (List UInt8 × Nat)) : Prop := ∃ v', RdAt w' b 65 n rest v' L' ∧ v'.ownBlock = v.ownBlock ∧ (∀ y ∈ L', y ∈ L) ∧ Ot (fun k => k = b) w w'
def errV (B : Nat) : Value := .iface 97 (.pointer (some ⟨B, 0, none⟩))
set_option maxHeartbeats 2000000 in
theorem numbers_gen {b : Nat} {n m : Nat} {rest : List Value} {v : Value} {L : List (List UInt8 × Nat)} (w : World) (h : RdAt w b 65 n rest v L) (hB : ∀ w', Ot (fun k => k = b) w w' → Glob w') (hn : ∀ x ∈ L, x.1.length ≤ 2000) (hl : m ≤ 10) :
    Calls Tryz.prog 45 #[.pointer (some ⟨b, 0, none⟩), .int .i64 m] w fun e w' => (∃ L', RdL w w' b n rest v L L') ∧ ((∃ (u : Value) (zs : List Int), e = .returned (.tuple #[u, .nilIface]) ∧ zs.length = m ∧ Seg w' 3 1 u m (zs.map (Value.int .i64)) ∧ (∀ k, u.ownBlock = some k → w.heap.size ≤ k)) ∨ (∃ B, e = .returned (.tuple #[.slice none 0 0, errV B]))) := by
  have H : Hid (RdAt w b 65 n rest v L) := h
  have hb := h.lt
  have HN : Hid (∀ x ∈ L, x.1.length ≤ 2000) := hn
  have HG : Hid (∀ w', Ot (fun k => k = b) w w' → Glob w') := hB
  obtain ⟨i0, hi, hz0, hz1, hz2⟩ := info_parts infoIntP
  clear h hn hB
  go_enter Tryz.func45, Tryz.ntmps45
  go_wp2_with (at_make; refine wpList_make_own _ rfl _ _ 22 rfl w.heap.size 3 i0 (.int .i64 0) 1 Tryz.underlying22 hi hz0 hz1 _ _ _ m rfl rfl (by omega) (by rw [hz2]; omega) (by unfold maxLen; omega) (Nat.le_refl _) ?_; intro w1 hown1 hgrow1)
  go_loopw [6, 13] (fun o i wr => ∃ (k : Nat) (v' : Value) (L' : List (List UInt8 × Nat)) (zs : List Int), k ≤ m ∧ i = .int .i64 k ∧ zs.length = k ∧ (∀ y ∈ L', y ∈ L) ∧ RdAt wr b 65 n rest v' L' ∧ v'.ownBlock = v.ownBlock ∧ Seg wr 3 1 o k (zs.map (Value.int .i64)) ∧ (∀ j, o.ownBlock = some j → w.heap.size ≤ j) ∧ Ot (fun k => k = b) w wr) (fun _ i _ => m - (intOf i).toNat)
  case atStart =>
    have hb1 : Below w.heap.size w w1 := (Below.refl _ _).grown hgrow1 (Nat.le_refl _) (by simp)
    exact ⟨0, v, L, [], Nat.zero_le _, rfl, rfl, fun _ h => h, H.out.below hb1, rfl, Seg.of_owns hown1, fun j hj => by simp [Value.ownBlock] at hj; omega, Ot.of_below hb1⟩
  case round =>
    clear hown1 hgrow1
    obtain ⟨k, v', L', zs, hk, rfl, hzl, hin, hrd, hvo, hseg, hun, hot⟩ := hrel
    have HR : Hid (RdAt wr b 65 n rest v' L') := hrd
    have HV : Hid (v'.ownBlock = v.ownBlock) := hvo
    have HZ : Hid (zs.length = k) := hzl
    have HI : Hid (∀ y ∈ L', y ∈ L) := hin
    have HS : Hid (Seg wr 3 1 u6 k (zs.map (Value.int .i64))) := hseg
    have HU : Hid (∀ j, u6.ownBlock = some j → w.heap.size ≤ j) := hun
    have HOT : Hid (Ot (fun k => k = b) w wr) := hot
    have hws := hot.size
    clear hrd hvo hseg hun hot hzl hin
    by_cases hlt : k < m
    · obtain ⟨x, hx⟩ : ∃ x, L'.headD (endS n) = x := ⟨_, rfl⟩
      have hxl : x.1.length ≤ 2000 := by
        rw [← hx]
        cases hL : L' with
        | nil => exact Nat.zero_le _
        | cons y R => exact HN.out y (HI.out y (by rw [hL]; exact List.mem_cons_self ..))
      have HNX : Hid (Calls Tryz.prog 20 #[.pointer (some ⟨b, 0, none⟩)] wr fun e w' => e = .returned (.agg #[.string ⟨x.1.toArray⟩, .int .i64 x.2]) ∧ ∃ v2, RdAt w' b 65 n rest v2 L'.tail ∧ v2.ownBlock = v.ownBlock ∧ Ot (fun k => k = b) wr w') := by
        refine (sgnext_any wr HR.out).mono ?_
        rw [hx]
        rintro e w' ⟨rfl, v2, h1, h2, h3⟩
        exact ⟨rfl, v2, h1, h2.trans HV.out, h3⟩
      have HIT : Hid (∀ y ∈ L'.tail, y ∈ L) := fun y hy => HI.out y (List.mem_of_mem_tail hy)
      cases hz : numL x.1 with
      | none =>
        have HNB : Hid (∀ w1, Ot (fun k => k = b) w w1 → Calls Tryz.prog 62 #[.string ⟨x.1.toArray⟩] w1 fun e w' => e = .returned (.tuple #[.int .i64 0, .bool false]) ∧ Below w1.heap.size w1 w') := by
          intro w1 h1
          refine (number_any ⟨x.1.toArray⟩ w1 (by show x.1.toArray.size ≤ 2000; simpa using hxl) (HG.out w1 h1)).mono ?_
          rw [hz]
          rintro e w' ⟨rfl, h⟩
          exact ⟨rfl, h⟩
        clear hx hxl hz
        go_wp2_with (go_at_call 20; refine HNX.out.mono ?_; rintro e w1 ⟨rfl, v2, hr1, hv1, ho1⟩)
        have ho01 : Ot (fun k => k = b) w (w1.alloc (.cells #[.string ⟨x.1.toArray⟩, .int .i64 x.2] 60)) := (HOT.out.trans ho1).alloc _
        refine (HNB.out _ ho01).mono ?_
        rintro e w2 ⟨rfl, hb2⟩
        have HO2 : Hid (Ot (fun k => k = b) w w2) := ho01.trans (Ot.of_below hb2)
        have HR2 : Hid (RdAt w2 b 65 n rest v2 L'.tail) := (hr1.below (below_alloc_ (Below.refl _ _) _)).below hb2
        have HV2 : Hid (v2.ownBlock = v.ownBlock) := hv1
        have HX2 : Hid (w2.heap[w1.heap.size]? = some (.cells #[.string ⟨x.1.toArray⟩, .int .i64 x.2] 60 (0, 0))) := (hb2.block _ (by simp)).trans (new_block _ _)
        have hx0 : w2.cell? ⟨w1.heap.size, 0, none⟩ = some (.string ⟨x.1.toArray⟩) := by simp [World.cell?, HX2.out]
        have hx1 : w2.cell? ⟨w1.heap.size, 1, none⟩ = some (.int .i64 x.2) := by simp [World.cell?, HX2.out]
        clear hr1 hv1 ho1 ho01 hb2
        go_wp2_with (go_at_call 22; refine (wrongS_any _ _ _ _).mono ?_; rintro e w3 ⟨B, rfl, hb3⟩)
        (try simp only [Exit.inBlock, Exit.then])
        go_ret2
        exact ⟨⟨L'.tail, v2, HR2.out.below hb3, HV2.out, HIT.out, HO2.out.trans (Ot.of_below hb3)⟩, Or.inr ⟨B, rfl⟩⟩
      | some z =>
        have HNB : Hid (∀ w1, Ot (fun k => k = b) w w1 → Calls Tryz.prog 62 #[.string ⟨x.1.toArray⟩] w1 fun e w' => e = .returned (.tuple #[.int .i64 z, .bool true]) ∧ Below w1.heap.size w1 w') := by
          intro w1 h1
          refine (number_any ⟨x.1.toArray⟩ w1 (by show x.1.toArray.size ≤ 2000; simpa using hxl) (HG.out w1 h1)).mono ?_
          rw [hz]
          rintro e w' ⟨rfl, h⟩
          exact ⟨rfl, h⟩
        clear hx hxl hz
        go_wp2_with (go_at_call 20; refine HNX.out.mono ?_; rintro e w1 ⟨rfl, v2, hr1, hv1, ho1⟩)
        have ho01 : Ot (fun k => k = b) w (w1.alloc (.cells #[.string ⟨x.1.toArray⟩, .int .i64 x.2] 60)) := (HOT.out.trans ho1).alloc _
        refine (HNB.out _ ho01).mono ?_
        rintro e w2 ⟨rfl, hb2⟩
        have HO2 : Hid (Ot (fun k => k = b) w w2) := ho01.trans (Ot.of_below hb2)
        have HS2 : Hid (Seg w2 3 1 u6 k (zs.map (Value.int .i64))) := ((HS.out.oth ho1 (fun j hj e => by have := HU.out j hj; omega)).alloc _).below hb2
        have HR2 : Hid (RdAt w2 b 65 n rest v2 L'.tail) := (hr1.below (below_alloc_ (Below.refl _ _) _)).below hb2
        have HV2 : Hid (v2.ownBlock = v.ownBlock) := hv1
        have HVL : Hid (∀ j, v.ownBlock = some j → j < w.heap.size) := fun j hj => by have h := H.out.row.lt hj; exact h
        clear hr1 hv1 ho1 ho01 hb2
        go_wp2_with (at_builtin; refine wpList_append_seg _ rfl (.tmp 29) (.tmp 31) 22 rfl 3 i0 _ 1 8 Tryz.underlying22 hi hz0 hz1 hz2 rfl (by decide) _ _ _ rfl (HS2.out.below (by repeat' (first | with_reducible exact Below.refl _ _ | with_reducible refine Below.drew ?_ | with_reducible refine below_alloc_ ?_ _))) _ 1 1 _ rfl rfl (news_of (new_block_ (by simp))) (by simp [Value.oneCell']) (by decide) (by unfold maxLen; omega) (by omega) _ rfl ?_; intro g goff gcap w3 hs3 hg3 ha3 hl3)
        have hgn : w.heap.size ≤ g := by
          rcases ha3 with ha3 | ha3
          · exact HU.out _ ha3
          · have := HO2.out.size; simp at ha3; omega
        go_roundw
        case rel =>
          refine ⟨k + 1, v2, L'.tail, zs ++ [z], by omega, by go_num, by rw [List.length_append, HZ.out]; rfl, HIT.out, ?_, HV2.out, ?_, ?_, ?_⟩
          · refine (HR2.out.below (below_alloc_ (Below.refl _ _) _)).kept (hg3.block b (by simp; have := HO2.out.size; omega) (fun e => ?_)) (fun j hj => hg3.block j (by simp; have := HR2.out.row.lt hj; omega) (fun e => ?_))
            · have := HU.out b e.symm; omega
            · have h1 := HU.out j e.symm
              rw [HV2.out] at hj
              have h2 := HVL.out j hj
              omega
          · rw [List.map_append]
            exact hs3
          · intro j hj
            simp only [Value.ownBlock, Option.some.injEq] at hj
            subst hj
            exact hgn
          · exact (HO2.out.alloc _).grown hg3 (fun j hj => Or.inr (HU.out j hj))
        case measure => simp [intOf]; omega
    · obtain rfl : k = m := by omega
      go_wp2
      (try simp only [Exit.inBlock, Exit.then])
      go_ret2
      exact ⟨⟨L', v', HR.out, HV.out, HI.out, HOT.out⟩, Or.inl ⟨u6, zs, rfl, HZ.out, HS.out, HU.out⟩⟩
end Go.Proofs.YtfakjedolecdcaaGreatDoor
namespace Go.Proofs.YtfakjedolecdcaaGreatDoor
open Go.RowKit Go.Extern.Stop Go.Stop Go.Extern

theorem made_yes (x : List UInt8 × Nat) (qv : Value) (w : World) :
    Calls Tryz.prog 46 #[.agg #[.string ⟨x.1.toArray⟩, .int .i64 x.2], qv, .nilIface] w fun e w' => e = .returned (.tuple #[qv, .nilIface]) ∧ Below w.heap.size w w' := by
  go_enter Tryz.func46, Tryz.ntmps46
  go_wp2
  go_ret2
  exact ⟨rfl, below_alloc_ (Below.refl _ _) _⟩
theorem end_any (x : List UInt8 × Nat) (w : World) :
    Calls Tryz.prog 21 #[.agg #[.string ⟨x.1.toArray⟩, .int .i64 x.2]] w fun e w' => e = .returned (.bool (x.1 == [])) ∧ Below w.heap.size w w' := by
  go_enter Tryz.func21, Tryz.ntmps21
  go_wp2
  go_ret
  exact ⟨by simp, below_alloc_ (Below.refl _ _) _⟩
def headB : List UInt8 := [104, 101, 97, 100]
def fifoB : List UInt8 := [102, 105, 102, 111]
set_option maxHeartbeats 2000000 in
theorem fifo_yes {b : Nat} {n : Nat} {rest : List Value} {v : Value} {x1 x2 : List UInt8 × Nat} {R : List (List UInt8 × Nat)} (f : List UInt8 × Nat) (P Rm : Int) (w : World) (h : RdAt w b 65 n rest v (x1 :: x2 :: R)) (hB : ∀ w', Ot (fun k => k = b) w w' → Glob w') (h1 : numL x1.1 = some P) (h2 : numL x2.1 = some Rm) (hl1 : x1.1.length ≤ 2000) (hl2 : x2.1.length ≤ 2000) (hP : 0 ≤ P ∧ P ≤ 1000000) (hR : 0 ≤ Rm ∧ Rm ≤ 1000000) :
    Calls Tryz.prog 31 #[.pointer (some ⟨b, 0, none⟩), .agg #[.string ⟨f.1.toArray⟩, .int .i64 f.2]] w fun e w' => ∃ q v', e = .returned (.tuple #[.iface 86 (.pointer (some ⟨q, 0, none⟩)), .nilIface]) ∧ w.heap.size ≤ q ∧ LAt w' q 110 (frest P Rm (f.1 == headB) []) (.slice none 0 0) [] ∧ RdAt w' b 65 n rest v' R ∧ v'.ownBlock = v.ownBlock ∧ Ot (fun k => k = b) w w' := by
  have HNS : Hid (∀ w1, Ot (fun k => k = b) w w1 → RdAt w1 b 65 n rest v (x1 :: x2 :: R) → Calls Tryz.prog 45 #[.pointer (some ⟨b, 0, none⟩), .int .i64 2] w1 fun e w' => ∃ u v', e = .returned (.tuple #[u, .nilIface]) ∧ RdAt w' b 65 n rest v' R ∧ v'.ownBlock = v.ownBlock ∧ Seg w' 3 1 u 2 [.int .i64 P, .int .i64 Rm] ∧ (∀ k, u.ownBlock = some k → w1.heap.size ≤ k) ∧ Ot (fun k => k = b) w1 w') := by
    intro w1 ho hr
    refine (numbers_yes (L := [x1, x2]) w1 hr (fun w' h' => hB w' (ho.trans h')) ?_ (by simp)).mono ?_
    · intro x hx
      simp at hx
      rcases hx with rfl | rfl
      · exact ⟨by rw [h1]; rfl, hl1⟩
      · exact ⟨by rw [h2]; rfl, hl2⟩
    · rintro e w' ⟨u, v', rfl, hr', hv', hs', hn', ho'⟩
      simp only [numsL, List.map, h1, h2, Option.getD, List.length_cons, List.length_nil] at hs'
      exact ⟨u, v', rfl, hr', hv', hs', hn', ho'⟩
  have H : Hid (RdAt w b 65 n rest v (x1 :: x2 :: R)) := h
  have hb := h.lt
  clear h hB h1 h2 hl1 hl2
  go_enter Tryz.func31, Tryz.ntmps31
  go_wp2_with (go_at_call 45; refine (HNS.out _ ?_ ?_).mono ?_; exact (Ot.refl _ _).alloc _; exact H.out.below (below_alloc_ (Below.refl _ _) _); rintro e w1 ⟨u, v', rfl, hr1, hv1, hs1, hn1, ho1⟩)
  obtain ⟨g, off, cap, rfl, hg1, hg2, hg3, hgc⟩ := hs1.some (by decide)
  have c0 : w1.cell? ⟨g, off, none⟩ = some (.int .i64 P) := hgc 0 _ rfl
  have c1 : w1.cell? ⟨g, off + 1, none⟩ = some (.int .i64 Rm) := hgc 1 _ rfl
  have hbx : w1.heap[w.heap.size]? = some (.cells #[.string ⟨f.1.toArray⟩, .int .i64 f.2] 60 (0, 0)) := (ho1.block w.heap.size (by simp) (by omega)).trans (new_block _ _)
  have b0 : w1.cell? ⟨w.heap.size, 0, none⟩ = some (.string ⟨f.1.toArray⟩) := by simp [World.cell?, hbx]
  have b1 : w1.cell? ⟨w.heap.size, 1, none⟩ = some (.int .i64 f.2) := by simp [World.cell?, hbx]
  have hbl := lt_of_block hbx
  have HR1 : Hid (RdAt w1 b 65 n rest v' R) := hr1
  have HV1 : Hid (v'.ownBlock = v.ownBlock) := hv1
  have HO1 : Hid (Ot (fun k => k = b) w w1) := ((Ot.refl _ _).alloc _).trans ho1
  have HBX : Hid (w1.heap[w.heap.size]? = some (.cells #[.string ⟨f.1.toArray⟩, .int .i64 f.2] 60 (0, 0))) := hbx
  have HNF : Hid (∀ w2, Calls Tryz.prog 27 #[.int .i64 P, .int .i64 Rm, .bool (f.1 == [104, 101, 97, 100])] w2 fun e w' => e = .returned (.tuple #[.pointer (some ⟨w2.heap.size, 0, none⟩), .nilIface]) ∧ LAt w' w2.heap.size 110 (frest P Rm (f.1 == headB) []) (.slice none 0 0) [] ∧ Below w2.heap.size w2 w') := fun w2 => (newFifo_yes P Rm (f.1 == headB) w2 hP.1 hP.2 hR.1 hR.2).mono fun e w' ⟨h1, h2, h3⟩ => ⟨h1, h2, by rw [h3]; exact below_alloc_ (Below.refl _ _) _⟩
  clear hs1 hgc hbx hr1 hv1 ho1 hn1 hP hR HNS
  go_cut [8, 7] (fun qv ev wx => ev = .nilIface ∧ qv = .pointer (some ⟨w1.heap.size, 0, none⟩) ∧ LAt wx w1.heap.size 110 (frest P Rm (f.1 == headB) []) (.slice none 0 0) [] ∧ Below w1.heap.size w1 wx)
  case first =>
    go_region_with (go_at_call 27; refine (HNF.out _).mono ?_; rintro e w2 ⟨rfl, hl2, hb2⟩)
    all_goals go_wp2_with fail
    all_goals go_meet
    all_goals exact ⟨rfl, rfl, hl2, ⟨hb2.os, hb2.tape, hb2.output, hb2.size, hb2.block⟩⟩
  case rest =>
  obtain ⟨rfl, rfl, hlc, hbc⟩ := hcut
  clear b0 b1 c0 c1
  generalize wc = w2 at *
  have hbx : w2.heap[w.heap.size]? = some (.cells #[.string ⟨f.1.toArray⟩, .int .i64 f.2] 60 (0, 0)) := (hbc.block _ hbl).trans HBX.out
  have b0 : w2.cell? ⟨w.heap.size, 0, none⟩ = some (.string ⟨f.1.toArray⟩) := by simp [World.cell?, hbx]
  have b1 : w2.cell? ⟨w.heap.size, 1, none⟩ = some (.int .i64 f.2) := by simp [World.cell?, hbx]
  have hbl2 := lt_of_block hbx
  have HLC : Hid (LAt w2 w1.heap.size 110 (frest P Rm (f.1 == headB) []) (.slice none 0 0) []) := hlc
  have HBC : Hid (Below w1.heap.size w1 w2) := hbc
  clear hbx hlc hbc
  go_wp2_with (go_at_call 46; refine (made_yes f _ _).mono ?_; rintro e w3 ⟨rfl, hb3⟩)
  go_ret2
  exact ⟨w1.heap.size, v', rfl, HO1.out.size, HLC.out.below hb3, (HR1.out.below HBC.out).below hb3, HV1.out, (HO1.out.trans (Ot.of_below HBC.out)).trans (Ot.of_below hb3)⟩
end Go.Proofs.YtfakjedolecdcaaGreatDoor
