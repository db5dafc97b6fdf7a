/-
  A text's signs, byte by byte, as mathematics; a parser of the reference in memory: here, fail, is. Conditions: it lies in memory.
-/
import Derived.Test.YtibecinojkkjpaaGreatDoorSy2
import Derived.Test.YtibecinojkkjpaaGreatDoorFl2
namespace Go.Proofs.YtibecinojkkjpaaGreatDoor
open Go.RowKit Go.Extern.Stop Go.Stop Go.Extern

/-! ### signs -/
theorem ixA_run {al : List UInt8} : ∀ (l : List UInt8) (k : Nat), k ≤ l.length → (∀ i b, i < k → l[i]? = some b → al.contains b = false) → (k = l.length → Lib.indexAny l al = -1) ∧ (∀ b, l[k]? = some b → al.contains b = true → Lib.indexAny l al = k)
  | [], k, hk, _ => by
    simp at hk
    subst hk
    exact ⟨fun _ => rfl, fun b h => by simp at h⟩
  | c :: l, 0, _, _ => ⟨fun h => by simp at h, fun b h hb => by
      simp at h
      subst h
      have hb2 : c ∈ al := by simpa using hb
      simp [Lib.indexAny, hb2]⟩
  | c :: l, k + 1, hk, hp => by
    have h0 := hp 0 c (by omega) rfl
    obtain ⟨i1, i2⟩ := ixA_run l k (by simpa using hk) (fun i b hi hb => hp (i + 1) b (by omega) (by simpa using hb))
    have h0' : ¬ c ∈ al := by simpa using h0
    constructor
    · intro h
      have := i1 (by simpa using h)
      simp [Lib.indexAny, h0', this]
    · intro b hb hc
      have := i2 b (by simpa using hb) hc
      simp only [Lib.indexAny, h0, Bool.false_eq_true, if_false, this]
      have hne : ((k : Int) == -1) = false := by simp
      rw [hne]
      simp
theorem lenL_run {al l : List UInt8} {k : Nat} (hk0 : 1 ≤ k) (hk : k ≤ l.length) (hp : ∀ i b, i < k → l[i]? = some b → al.contains b = false) (he : k = l.length ∨ ∃ b, l[k]? = some b ∧ al.contains b = true) : lenL al l = k := by
  obtain ⟨i1, i2⟩ := ixA_run l k hk hp
  unfold lenL
  rcases he with he | ⟨b, hb, hc⟩
  · rw [i1 he, if_neg (by omega), if_pos rfl]; exact he.symm
  · rw [i2 b hb hc, if_neg (by omega), if_neg (by omega)]; simp
theorem lenL_sep {al l : List UInt8} {b : UInt8} (hb : l[0]? = some b) (hc : al.contains b = true) : lenL al l = 1 := by
  have := (ixA_run l 0 (Nat.zero_le _) (fun i b hi => by omega)).2 b hb hc
  unfold lenL
  rw [this]
  simp
/-- A word is through. -/
theorem signs_word {al l : List UInt8} {p k : Nat} (hk0 : 1 ≤ k) (hk : k ≤ l.length) (h32 : al.contains 32 = true) (hp : ∀ i b, i < k → l[i]? = some b → al.contains b = false) (he : k = l.length ∨ ∃ b, l[k]? = some b ∧ al.contains b = true) : signsL al l p = (l.take k, p) :: signsL al (l.drop k) (p + k) := by
  have hne : l ≠ [] := fun e => by subst e; simp at hk; omega
  rw [signsL_cons hne, lenL_run hk0 hk hp he]
  have : ¬ l.take k = [32] := fun e => by
    have h1 : l[0]? = some 32 := by
      have := congrArg (fun x => x[0]?) e
      simp only [List.getElem?_cons_zero] at this
      rw [List.getElem?_take, if_pos (by omega)] at this
      exact this
    have := hp 0 32 (by omega) h1
    rw [h32] at this
    cases this
  rw [if_neg this]
  rfl
theorem signs_sep {al l : List UInt8} {p : Nat} {b : UInt8} (hb : l[0]? = some b) (hc : al.contains b = true) : signsL al l p = (if b = 32 then [] else [([b], p)]) ++ signsL al (l.drop 1) (p + 1) := by
  cases l with
  | nil => simp at hb
  | cons a l =>
    simp at hb
    subst hb
    rw [signsL_cons (by simp), lenL_sep (l := a :: l) rfl hc]
    simp
/-! ### the parser -/
/-- A parser in block b: what is left of its signs, how many bytes its text has, what is wrong and where. -/
structure PsAt (w : World) (b n : Nat) (er at' : Int) (v : Value) (L : List (List UInt8 × Nat)) : Prop where
  blk : w.heap[b]? = some (.cells #[v, .int .i64 n, .int .i64 er, .int .i64 at', .int .i64 0] 45 (0, 0))
  row : Seg w 70 2 v L.length (flt sgc L)
  ne : v.ownBlock ≠ some b
section
variable {w w' : World} {b n : Nat} {er at' : Int} {v : Value} {L : List (List UInt8 × Nat)}
theorem PsAt.lt (h : PsAt w b n er at' v L) : b < w.heap.size := lt_of_block h.blk
theorem PsAt.cells (h : PsAt w b n er at' v L) : w.cell? ⟨b, 0, none⟩ = some v ∧ w.cell? ⟨b, 1, none⟩ = some (.int .i64 n) ∧ w.cell? ⟨b, 2, none⟩ = some (.int .i64 er) ∧ w.cell? ⟨b, 3, none⟩ = some (.int .i64 at') ∧ w.frozen? ⟨b, 0, none⟩ = false ∧ w.frozen? ⟨b, 2, none⟩ = false ∧ w.frozen? ⟨b, 3, none⟩ = false := by
  have hb := h.blk
  refine ⟨?_, ?_, ?_, ?_, ?_, ?_, ?_⟩
  all_goals simp [World.cell?, World.frozen?, hb]
theorem PsAt.kept (h : PsAt w b n er at' v L) (hb : w'.heap[b]? = w.heap[b]?) (hv : ∀ k, v.ownBlock = some k → w'.heap[k]? = w.heap[k]?) : PsAt w' b n er at' v L := ⟨hb.trans h.blk, h.row.kept hv, h.ne⟩
theorem PsAt.below (h : PsAt w b n er at' v L) (hb : Below w.heap.size w w') : PsAt w' b n er at' v L := h.kept (hb.block b h.lt) fun k hk => hb.block k (h.row.lt hk)
theorem PsAt.ot {S : Nat → Prop} (h : PsAt w b n er at' v L) (ho : Ot S w w') (hb : ¬ S b) (hv : ∀ k, v.ownBlock = some k → ¬ S k) : PsAt w' b n er at' v L := h.kept (ho.block b h.lt hb) fun k hk => ho.block k (h.row.lt hk) (hv k hk)
theorem PsAt.set {v' : Value} {L' : List (List UInt8 × Nat)} (h : PsAt w b n er at' v L) (hv : Seg w 70 2 v' L'.length (flt sgc L')) (hne : v'.ownBlock ≠ some b) : PsAt (w.setCell ⟨b, 0, none⟩ v') b n er at' v' L' :=
  ⟨by rw [heap_setCell_here h.blk v']; simp, hv.setCell (p := ⟨b, 0, none⟩) hne _, hne⟩
theorem PsAt.err (h : PsAt w b n er at' v L) (e a : Int) : PsAt ((w.setCell ⟨b, 2, none⟩ (.int .i64 e)).setCell ⟨b, 3, none⟩ (.int .i64 a)) b n e a v L := by
  have h1 : (w.setCell ⟨b, 2, none⟩ (.int .i64 e)).heap[b]? = some (.cells #[v, .int .i64 n, .int .i64 e, .int .i64 at', .int .i64 0] 45 (0, 0)) := by rw [heap_setCell_here h.blk]; simp
  exact ⟨by rw [heap_setCell_here h1]; simp, (h.row.setCell (p := ⟨b, 2, none⟩) h.ne _).setCell (p := ⟨b, 3, none⟩) h.ne _, h.ne⟩
theorem PsAt.drewN (h : PsAt w b n er at' v L) (q : Nat) : PsAt (w.drewN q) b n er at' v L := h.kept rfl (fun _ _ => rfl)
end
theorem rseg_tail {w : World} {g off cap : Nat} {x : List UInt8 × Nat} {L : List (List UInt8 × Nat)} (h : Seg w 70 2 (.slice (some ⟨g, off, none⟩) (L.length + 1) cap) (L.length + 1) (flt sgc (x :: L))) (off' cap' : Nat) (ho : off' = off + 2 ∧ cap' = cap - 1 ∨ cap = 1 ∧ off' = off ∧ cap' = 0) : Seg w 70 2 (.slice (some ⟨g, off', none⟩) L.length cap') L.length (flt sgc L) := by
  have := Seg.drop (w := w) (e := 70) (k := 2) (n := L.length + 1) (m := 1) h (by omega) off' (by omega)
  rw [flt_drop sgc 2 sgc_len] at this
  have hc : cap' = cap - 1 := by omega
  rw [hc]
  simpa using this
theorem here_any {b n : Nat} {er at' : Int} {v : Value} {L : List (List UInt8 × Nat)} (w : World) (h : PsAt w b n er at' v L) :
    Calls Tryz.prog 27 #[.pointer (some ⟨b, 0, none⟩)] w fun e w' => e = .returned (.int .i64 (hdP n L)) ∧ w' = w := by
  obtain ⟨c0, c1, c2, c3, f0, f2, f3⟩ := h.cells
  cases L with
  | nil =>
    obtain ⟨x, cap, rfl⟩ : ∃ x cap, v = .slice x 0 cap := by rcases h.row.form with ⟨h, _⟩ | ⟨b, o, c, h, _⟩ <;> exact ⟨_, _, h⟩
    clear h
    go_enter Tryz.func27, Tryz.ntmps27
    go_wp2
    go_ret
    exact ⟨rfl, rfl⟩
  | cons x L =>
    obtain ⟨g, off, cap, rfl, hn, hx, hlt, hcs⟩ := h.row.some (by simp)
    have k1 : w.cell? ⟨g, off + 1, none⟩ = some (.int .i64 x.2) := hcs 1 _ (by simp [flt, sgc])
    have hl : (0 : Int) < ((L.length + 1 : Nat) : Int) := by omega
    clear hcs h
    go_enter Tryz.func27, Tryz.ntmps27
    go_wp2
    go_ret
    exact ⟨rfl, rfl⟩
/-- Only block b is otherwise. -/
theorem fail_any {b n : Nat} {v : Value} {L : List (List UInt8 × Nat)} (er0 : Int) (w : World) (h : PsAt w b n 0 er0 v L) (e : Int) :
    Calls Tryz.prog 14 #[.pointer (some ⟨b, 0, none⟩), .int .i64 e] w fun r w' => r = .returned (.tuple #[]) ∧ PsAt w' b n e (hdP n L) v L ∧ Ot (· = b) w w' := by
  have H : Hid (PsAt w b n 0 er0 v L) := h
  obtain ⟨c0, c1, c2, c3, f0, f2, f3⟩ := h.cells
  have HH := here_any w h
  have HC : Hid (Calls Tryz.prog 27 #[.pointer (some ⟨b, 0, none⟩)] w fun e w' => e = .returned (.int .i64 (hdP n L)) ∧ w' = w) := HH
  clear h HH
  go_enter Tryz.func14, Tryz.ntmps14
  go_wp2_with fail
  refine HC.out.mono ?_
  rintro r w1 ⟨rfl, rfl⟩
  go_wp2
  go_end0
  exact ⟨rfl, H.out.err e _, Ot.setCell (S := fun k => k = b) (Ot.setCell (S := fun k => k = b) (Ot.refl _ _) (p := ⟨b, 2, none⟩) (Or.inl rfl) _) (p := ⟨b, 3, none⟩) (Or.inl rfl) _⟩
theorem fail_done {b n : Nat} {v : Value} {L : List (List UInt8 × Nat)} {er at' : Int} (w : World) (h : PsAt w b n er at' v L) (hne : er ≠ 0) (e : Int) :
    Calls Tryz.prog 14 #[.pointer (some ⟨b, 0, none⟩), .int .i64 e] w fun r w' => r = .returned (.tuple #[]) ∧ w' = w := by
  obtain ⟨c0, c1, c2, c3, f0, f2, f3⟩ := h.cells
  have o1 : (er == 0) = false := by simpa using hne
  clear h hne
  go_enter Tryz.func14, Tryz.ntmps14
  go_wp2
  go_end0
  exact ⟨rfl, rfl⟩
/-- Is that the next sign? Then it is behind. -/
theorem is_done {b n : Nat} {v : Value} {L : List (List UInt8 × Nat)} {er at' : Int} (w : World) (h : PsAt w b n er at' v L) (hne : er ≠ 0) (s : ByteArray) :
    Calls Tryz.prog 24 #[.pointer (some ⟨b, 0, none⟩), .string s] w fun r w' => r = .returned (.bool false) ∧ w' = w := by
  obtain ⟨c0, c1, c2, c3, f0, f2, f3⟩ := h.cells
  have o1 : (er == 0) = false := by simpa using hne
  clear h hne
  go_enter Tryz.func24, Tryz.ntmps24
  go_wp2
  go_ret
  exact ⟨rfl, rfl⟩
theorem is_no {b n : Nat} {v : Value} {L : List (List UInt8 × Nat)} {at' : Int} (w : World) (h : PsAt w b n 0 at' v L) (s : ByteArray) (hne : hdW L ≠ s.data.toList) :
    Calls Tryz.prog 24 #[.pointer (some ⟨b, 0, none⟩), .string s] w fun r w' => r = .returned (.bool false) ∧ w' = w := by
  obtain ⟨c0, c1, c2, c3, f0, f2, f3⟩ := h.cells
  cases L with
  | nil =>
    obtain ⟨x, cap, rfl⟩ : ∃ x cap, v = .slice x 0 cap := by rcases h.row.form with ⟨h, _⟩ | ⟨b, o, c, h, _⟩ <;> exact ⟨_, _, h⟩
    clear h
    go_enter Tryz.func24, Tryz.ntmps24
    go_wp2
    go_ret
    exact ⟨rfl, rfl⟩
  | cons x L =>
    obtain ⟨g, off, cap, rfl, hn, hx, hlt, hcs⟩ := h.row.some (by simp)
    have k0 : w.cell? ⟨g, off, none⟩ = some (strV x.1) := hcs 0 _ (by simp [flt, sgc])
    have hsv : strV x.1 = .string ⟨x.1.toArray⟩ := rfl
    rw [hsv] at k0
    have hl : (0 : Int) < ((L.length + 1 : Nat) : Int) := by omega
    have o1 : (x.1 == s.toList) = false := by rw [toList_data]; simpa [hdW] using hne
    clear hcs h hsv hne
    go_enter Tryz.func24, Tryz.ntmps24
    go_wp2
    go_ret
    exact ⟨rfl, rfl⟩
set_option maxHeartbeats 2000000 in
theorem is_yes {b n : Nat} {v : Value} {L : List (List UInt8 × Nat)} {at' : Int} (w : World) (h : PsAt w b n 0 at' v L) (s : ByteArray) (hs : s.data.toList ≠ []) (he : hdW L = s.data.toList) :
    Calls Tryz.prog 24 #[.pointer (some ⟨b, 0, none⟩), .string s] w fun r w' => r = .returned (.bool true) ∧ ∃ v', PsAt w' b n 0 at' v' L.tail ∧ v'.ownBlock = v.ownBlock ∧ Ot (· = b) w w' := by
  have H : Hid (PsAt w b n 0 at' v L) := h
  obtain ⟨c0, c1, c2, c3, f0, f2, f3⟩ := h.cells
  cases L with
  | nil => exact absurd he.symm hs
  | cons x L =>
    obtain ⟨g, off, cap, rfl, hn, hx, hlt, hcs⟩ := h.row.some (by simp)
    have k0 : w.cell? ⟨g, off, none⟩ = some (strV x.1) := hcs 0 _ (by simp [flt, sgc])
    have hsv : strV x.1 = .string ⟨x.1.toArray⟩ := rfl
    rw [hsv] at k0
    have hl : (0 : Int) < ((L.length + 1 : Nat) : Int) := by omega
    have o1 : (x.1 == s.toList) = true := by rw [toList_data]; simpa [hdW] using he
    have hgb : g ≠ b := fun e => H.out.ne (by rw [e]; rfl)
    clear hcs h hsv he
    go_enter Tryz.func24, Tryz.ntmps24
    go_wp2
    all_goals go_ret
    · have hc : cap = 1 := by assumption
      exact ⟨rfl, .slice (some ⟨g, off, none⟩) L.length 0, H.out.set (rseg_tail H.out.row off 0 (Or.inr ⟨hc, rfl, rfl⟩)) (by simp [Value.ownBlock, hgb]), rfl, Ot.setCell (S := fun k => k = b) (Ot.refl _ _) (p := ⟨b, 0, none⟩) (Or.inl rfl) _⟩
    · exact ⟨rfl, .slice (some ⟨g, off + 2, none⟩) L.length (cap - 1), H.out.set (rseg_tail H.out.row (off + 2) (cap - 1) (Or.inl ⟨rfl, rfl⟩)) (by simp [Value.ownBlock, hgb]), rfl, Ot.setCell (S := fun k => k = b) (Ot.refl _ _) (p := ⟨b, 0, none⟩) (Or.inl rfl) _⟩
end Go.Proofs.YtibecinojkkjpaaGreatDoor
