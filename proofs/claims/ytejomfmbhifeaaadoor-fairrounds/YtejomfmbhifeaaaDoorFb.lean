/-
  fair.turns: what join, first, leave and pass do. Conditions: the row of numbers lies in memory, each number stands in it once, few of them.
-/
import Derived.Test.YtejomfmbhifeaaaDoorFa
import Derived.Test.YtejomfmbhifeaaaDoorLf
import Derived.Lib.SliceRun
namespace Go.Proofs.YtejomfmbhifeaaaDoor
open Go.RowKit Go.Extern.Stop Go.Stop Go.Extern

/-- A row of numbers at cell o of block b. -/
structure TO (w : World) (b n : Nat) (T : TypeId) (C : Nat → Value) (o : Nat) (tv : Value) (l : List Int) : Prop where
  blk : Blk w b n T C
  lt : o < n
  c0 : C o = tv
  row : Ins w tv l
  ne : tv.ownBlock ≠ some b
theorem TO.cell {w : World} {b n : Nat} {T : TypeId} {C : Nat → Value} {o : Nat} {tv : Value} {l : List Int} (h : TO w b n T C o tv l) : w.cell? ⟨b, o, none⟩ = some tv ∧ w.frozen? ⟨b, o, none⟩ = false := by
  have h0 := h.blk.cell (i := o) h.lt
  rw [h.c0] at h0
  exact h0
theorem TO.kept {w w' : World} {b n : Nat} {T : TypeId} {C : Nat → Value} {o : Nat} {tv : Value} {l : List Int} (h : TO w b n T C o tv l) (hb : w'.heap[b]? = w.heap[b]?) (hv : ∀ k, tv.ownBlock = some k → w'.heap[k]? = w.heap[k]?) : TO w' b n T C o tv l := ⟨h.blk.kept hb, h.lt, h.c0, Seg.kept h.row hv, h.ne⟩
theorem TO.below {w w' : World} {b n : Nat} {T : TypeId} {C : Nat → Value} {o : Nat} {tv : Value} {l : List Int} (h : TO w b n T C o tv l) (hb : Below w.heap.size w w') : TO w' b n T C o tv l := h.kept (hb.block b h.blk.lt) (fun k hk => hb.block k (Seg.lt h.row hk))
theorem TO.set {w : World} {b n : Nat} {T : TypeId} {C : Nat → Value} {o : Nat} {tv : Value} {l : List Int} (h : Blk w b n T C) (ho : o < n) (hv : Ins w tv l) (hne : tv.ownBlock ≠ some b) : TO (w.setCell ⟨b, o, none⟩ tv) b n T (updC C o tv) o tv l :=
  ⟨h.set o tv, ho, updC_same _ _ _, Seg.setCell (p := ⟨b, o, none⟩) hv hne _, hne⟩
/-- What turns' methods leave. -/
structure TPost (w : World) (b n : Nat) (T : TypeId) (C : Nat → Value) (o : Nat) (tv : Value) (l : List Int) (w' : World) (tv' : Value) : Prop where
  pos : TO w' b n T (updC C o tv') o tv' l
  own : ∀ k, tv'.ownBlock = some k → tv.ownBlock = some k ∨ w.heap.size ≤ k
  ot : Ot (fun k => k = b ∨ tv.ownBlock = some k) w w'
theorem infoIntT : (Tryd.prog.info? 3).map (fun i => (i.zero, i.size, i.bytes)) = some (some (.int .i64 0), 1, 8) := by kernel_rfl
theorem tfirst_any {tv : Value} {l : List Int} (w : World) (h : Ins w tv l) : Calls Tryd.prog 106 #[tv] w fun e w' => e = .returned (.tuple #[.int .i64 (l.headD 0), .bool (!l.isEmpty)]) ∧ w' = w := by
  cases l with
  | nil =>
    obtain ⟨x, cap, rfl⟩ := Ins.slice h
    clear h
    go_enter Tryd.func106, Tryd.ntmps106
    go_wp2
    go_ret2
    exact ⟨rfl, rfl⟩
  | cons a l =>
    obtain ⟨g, off, cap, rfl, hg, hc, _⟩ := Ins.at h (k := 0) (x := a) rfl
    simp only [Nat.add_zero, List.length_cons] at hc ⊢
    clear h
    go_enter Tryd.func106, Tryd.ntmps106
    go_wp2
    go_ret2
    exact ⟨rfl, rfl⟩
set_option maxHeartbeats 1000000 in
theorem join_any {b n : Nat} {T : TypeId} {C : Nat → Value} {o : Nat} {tv : Value} {l : List Int} (m : Int) (w : World) (h : TO w b n T C o tv l) (hl : l.length ≤ 1000) :
    Calls Tryd.prog 105 #[.pointer (some ⟨b, o, none⟩), .int .i64 m] w fun e w' => e = .returned (.tuple #[]) ∧ ∃ tv', TPost w b n T C o tv (l ++ [m]) w' tv' := by
  have H : Hid (TO w b n T C o tv l) := h
  obtain ⟨c0, f0⟩ := h.cell
  have hb := h.blk.lt
  have HR : Hid (Ins w tv l) := h.row
  clear h
  obtain ⟨i0, hi, hz0, hz1, hz2⟩ := info_parts infoIntT
  go_enter Tryd.func105, Tryd.ntmps105
  go_wp2_with (at_builtin; refine wpList_append_seg _ rfl (.tmp 7) (.tmp 9) 114 rfl 3 i0 _ 1 8 Tryd.underlying114 hi hz0 hz1 hz2 rfl (by decide) tv l.length (l.map (Value.int .i64)) rfl (Seg.below HR.out (below_alloc_ (Below.refl _ _) _)) ⟨w.heap.size, 0, none⟩ 1 1 [.int .i64 m] rfl rfl (news_of (new_block_ (by simp))) (by simp [Value.oneCell']) (by decide) (by unfold maxLen; omega) (by omega) _ rfl ?_; intro g off cap w1 hs1 hg1 ha1 hl1; have hB1 : Blk w1 b n T C := H.out.blk.kept ((hg1.block b (by simp; omega) (fun e => H.out.ne e.symm)).trans (Below.heap_alloc _ _ _ hb)); have k0 := hB1.cell H.out.lt; have hbs := hB1.lt; obtain ⟨k1, k2⟩ := k0; rw [H.out.c0] at k1)
  go_end0
  have hgb : g ≠ b := by
    rintro rfl
    rcases ha1 with ha1 | ha1
    · exact H.out.ne ha1
    · simp at ha1; omega
  refine ⟨rfl, _, TO.set (l := l ++ [m]) hB1 H.out.lt ?_ (by simpa [Value.ownBlock] using hgb), ?_, ?_⟩
  · unfold Ins
    simpa using hs1
  · intro k hk
    simp only [Value.ownBlock, Option.some.injEq] at hk
    subst hk
    rcases ha1 with ha1 | ha1
    · exact Or.inl ha1
    · right; simp at ha1; omega
  · refine Ot.setCell ?_ (Or.inl (Or.inl rfl)) _
    refine Ot.grown ?_ hg1 (fun k e => Or.inl (Or.inr e))
    exact Ot.alloc (Ot.refl _ _) _
theorem eLeaveQ (args : Array Value) (W : World) : (callFunc 113 args).run Tryd.prog W = .ok (.enter 113 args) W := enters_of Tryd.func113 (by kernel_rfl) rfl args W
theorem leaveQ_any (m n : Int) (c : Nat) (w : World) (hc : w.cell? ⟨c, 0, none⟩ = some (.int .i64 n)) : Calls Tryd.prog 113 #[.int .i64 m, .pointer (some ⟨c, 0, none⟩)] w fun e w' => e = .returned (.bool (m == n)) ∧ w' = w := by
  go_enter Tryd.func113, Tryd.ntmps113
  go_wp2
  go_ret
  exact ⟨rfl, rfl⟩
set_option maxHeartbeats 1000000 in
/-- The first place of n. -/
theorem tidx_any {tv : Value} (A B : List Int) (n : Int) (c : Nat) (w : World) (h : Ins w tv (A ++ n :: B)) (hA : n ∉ A) (hc : w.cell? ⟨c, 0, none⟩ = some (.int .i64 n)) (hl : (A ++ n :: B).length ≤ 1000) :
    Calls Tryd.prog 114 #[tv, .func (.func 113) #[] #[.pointer (some ⟨c, 0, none⟩)]] w fun e w' => e = .returned (.int .i64 A.length) ∧ w' = w := by
  have HI : Hid (Ins w tv (A ++ n :: B)) := h
  obtain ⟨x, cap, rfl⟩ := Ins.slice h
  obtain ⟨N, hN⟩ : ∃ N, (A ++ n :: B).length = N := ⟨_, rfl⟩
  have HN : Hid ((A ++ n :: B).length = N) := hN
  have hN2 : A.length < N := by rw [← hN]; simp
  rw [hN] at HI hl ⊢
  have heq := eLeaveQ
  clear h hN
  go_enter Tryd.func114, Tryd.ntmps114
  go_wp2
  go_loopw [8] (fun i wr => ∃ k : Nat, k ≤ A.length ∧ i = .int .i64 k ∧ wr = w) (fun i _ => N - (intOf i).toNat)
  case atStart => exact ⟨0, Nat.zero_le _, rfl, rfl⟩
  case round =>
    obtain ⟨k, hk, rfl, rfl⟩ := hrel
    by_cases hlt : k < A.length
    · have hget : (A ++ n :: B)[k]? = some A[k] := by rw [List.getElem?_append_left hlt, List.getElem?_eq_getElem hlt]
      obtain ⟨a, ha⟩ : ∃ a, A[k] = a := ⟨_, rfl⟩
      have hne : (a == n) = false := by
        simp only [beq_eq_false_iff_ne, ne_eq]
        rintro rfl
        exact hA (by rw [← ha]; exact List.getElem_mem hlt)
      rw [ha] at hget
      obtain ⟨g, off, cap', e1, hg, hcl, _⟩ := Ins.at HI.out hget
      have hx : x = some ⟨g, off, none⟩ := by simp at e1; exact e1.1
      subst hx
      have HQ := leaveQ_any a n c wr hc
      rw [hne] at HQ
      clear hget ha hne e1
      go_wp2_with (go_at_call 113; refine HQ.mono ?_; rintro e w2 ⟨rfl, hw2⟩; subst hw2)
      go_roundw
      case rel => exact ⟨k + 1, by omega, by go_num, by first | rfl | trivial⟩
      case measure => simp [intOf]; omega
    · obtain rfl : k = A.length := by omega
      have hget : (A ++ n :: B)[A.length]? = some n := by simp
      obtain ⟨g, off, cap', e1, hg, hcl, _⟩ := Ins.at HI.out hget
      have hx : x = some ⟨g, off, none⟩ := by simp at e1; exact e1.1
      subst hx
      have HQ := leaveQ_any n n c wr hc
      have hnn : (n == n) = true := by simp
      rw [hnn] at HQ
      clear hget hnn e1
      go_wp2_with (go_at_call 113; refine HQ.mono ?_; rintro e w2 ⟨rfl, hw2⟩; subst hw2)
      go_ret
      exact ⟨rfl, rfl⟩
end Go.Proofs.YtejomfmbhifeaaaDoor
