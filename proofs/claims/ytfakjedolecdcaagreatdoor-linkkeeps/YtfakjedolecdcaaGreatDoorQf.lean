/-
  queue.Fifo: what NewFifo, Put, Take and When return, what each leaves of the list, and that nothing else that was there before is otherwise. Conditions: the list lies in memory; few packets, none of them long; room from 0 on.
-/
import Derived.Test.YtfakjedolecdcaaGreatDoorQd
namespace Go.Proofs.YtfakjedolecdcaaGreatDoor
open Go.RowKit Go.Extern.Stop Go.Stop Go.Extern

theorem LAt.drewN {w : World} {b : Nat} {T : TypeId} {rest : List Value} {v : Value} {L : List Hd} (h : LAt w b T rest v L) (n : Nat) : LAt (w.drewN n) b T rest v L := ⟨h.blk, h.row, h.ne⟩
theorem LAt.grown {w W w2 : World} {row : Option Nat} {b : Nat} {T : TypeId} {rest : List Value} {v : Value} {L : List Hd} (h : LAt w b T rest v L) (hB : Below w.heap.size w W) (hg : W.grownBy w2 row) (hb : row ≠ some b) (hv : ∀ k, v.ownBlock = some k → row ≠ some k) : LAt w2 b T rest v L :=
  h.kept ((hg.block b (Nat.lt_of_lt_of_le h.lt hB.size) (fun e => hb e.symm)).trans (hB.block b h.lt)) (fun k hk => (hg.block k (Nat.lt_of_lt_of_le (h.row.lt hk) hB.size) (fun e => hv k hk e.symm)).trans (hB.block k (h.row.lt hk)))
theorem after_ot {S : Nat → Prop} {w w1 : World} {o : Obj} (h : Ot S (w.alloc o) w1) (hs : ¬ S w.heap.size) : w.heap.size < w1.heap.size ∧ w1.heap[w.heap.size]? = some o := by
  refine ⟨by have := h.size; simp at this; omega, ?_⟩
  rw [h.block w.heap.size (by simp) hs]
  exact heap_alloc_new w o
/-- A Fifo's cells behind its list. -/
def frest (P R : Int) (hd : Bool) (more : List Value) : List Value := .int .i64 P :: .int .i64 R :: .bool hd :: more
theorem fifo_cells {w : World} {b : Nat} {T : TypeId} {P R : Int} {hd : Bool} {more : List Value} {v : Value} {L : List Hd} (h : LAt w b T (frest P R hd more) v L) : w.cell? ⟨b, 2, none⟩ = some (.int .i64 P) ∧ w.cell? ⟨b, 3, none⟩ = some (.int .i64 R) ∧ w.cell? ⟨b, 4, none⟩ = some (.bool hd) := by
  have := h.blk
  refine ⟨?_, ?_, ?_⟩
  all_goals simp [World.cell?, this, frest]
/-- There is no room for so many. -/
def over (P R : Int) (L : List Hd) : Bool := decide (P < (L.length : Int)) || decide (R < sumL L)
/-- The first ones are thrown away until the others have room. -/
def cutL (P R : Int) : List Hd → List Hd × List Hd
  | [] => ([], [])
  | x :: L => if over P R (x :: L) then (x :: (cutL P R L).1, (cutL P R L).2) else ([], x :: L)
theorem cutL_no {P R : Int} {L : List Hd} (h : over P R L = false) : cutL P R L = ([], L) := by
  cases L with
  | nil => rfl
  | cons x L => simp [cutL, h]
theorem cutL_yes {P R : Int} {x : Hd} {L : List Hd} (h : over P R (x :: L) = true) : cutL P R (x :: L) = (x :: (cutL P R L).1, (cutL P R L).2) := by simp [cutL, h]
theorem over_nil {P R : Int} (hP : 0 ≤ P) (hR : 0 ≤ R) : over P R [] = false := by
  unfold over
  have h1 : ¬ P < (([] : List Hd).length : Int) := by simp only [List.length_nil]; omega
  have h2 : ¬ R < sumL [] := by simp only [sumL]; omega
  rw [decide_eq_false h1, decide_eq_false h2]
  rfl
def lenOf : Value → Nat
  | .slice _ n _ => n
  | _ => 0
theorem Hs.len {w : World} {v : Value} {L : List Hd} (h : Hs w v L) : lenOf v = L.length := by
  rcases h.form with ⟨rfl, h0, _⟩ | ⟨b, off, cap, rfl, _⟩
  · rw [h0]; rfl
  · rfl
theorem Fit.suff {A B : List Hd} (h : Fit (A ++ B)) : Fit B := ⟨by have := h.1; simp at this; omega, fun y hy => h.2 y (by simp [hy])⟩
theorem Fit.pref {A B : List Hd} (h : Fit (A ++ B)) : Fit A := ⟨by have := h.1; simp at this; omega, fun y hy => h.2 y (by simp [hy])⟩

/-- A round of cut: what was thrown away, and what is left. -/
structure CutR (P R : Int) (L : List Hd) (w : World) (b : Nat) (T : TypeId) (hd : Bool) (more : List Value) (v : Value) (A B : List Hd) (u : Value) (v' : Value) (wr : World) : Prop where
  parts : L = A ++ B
  cut : cutL P R L = (A ++ (cutL P R B).1, (cutL P R B).2)
  list : LAt wr b T (frest P R hd more) v' B
  lost : Hs wr u A
  blk : v'.ownBlock = v.ownBlock
  new : ∀ k, u.ownBlock = some k → w.heap.size ≤ k
  ot : Ot (· = b) w wr

set_option maxHeartbeats 2000000 in
theorem cut_any {b : Nat} {T : TypeId} {P R : Int} {hd : Bool} {more : List Value} {v : Value} {L : List Hd} (w : World) (h : LAt w b T (frest P R hd more) v L) (hF : Fit L) (hP : 0 ≤ P) (hR : 0 ≤ R) :
    Calls Tryz.prog 144 #[.pointer (some ⟨b, 0, none⟩)] w fun e w' => ∃ u v', e = .returned u ∧ Hs w' u (cutL P R L).1 ∧ LAt w' b T (frest P R hd more) v' (cutL P R L).2 ∧ v'.ownBlock = v.ownBlock ∧ (∀ k, u.ownBlock = some k → w.heap.size ≤ k) ∧ Ot (· = b) w w' := by
  have H : Hid (LAt w b T (frest P R hd more) v L) := h
  have hb := h.lt
  clear h
  obtain ⟨i0, hi, hz0, hz1, hz2⟩ := info_parts infoHeld
  go_enter Tryz.func144, Tryz.ntmps144
  go_wp2
  go_loopw [3] (fun u wr => ∃ A B v', CutR P R L w b T hd more v A B u v' wr) (fun u _ => L.length - lenOf u)
  case atStart => exact ⟨[], L, v, rfl, rfl, H.out, Hs.nil _, rfl, fun k hk => by simp [Value.ownBlock] at hk, Ot.refl _ _⟩
  case round =>
    obtain ⟨A, B, v', hr⟩ := hrel
    have HR : Hid (CutR P R L w b T hd more v A B u3 v' wr) := hr
    have HL : Hid (LAt wr b T (frest P R hd more) v' B) := hr.list
    obtain ⟨c0, c1, f0, f1⟩ := hr.list.cells
    obtain ⟨c2, c3, c4⟩ := fifo_cells hr.list
    have hbs := hr.list.lt
    have hFB : Fit B := (hr.parts ▸ hF).suff
    clear hr
    cases ho : over P R B with
    | false =>
      have HO : Hid (over P R B = false) := ho
      have o1 : decide (P < (B.length : Int)) = false := by simp [over] at ho; simpa using ho.1
      have o2 : decide (R < sumL B) = false := by simp [over] at ho; simpa using ho.2
      clear ho
      go_wp2
      go_quiet (first | (go_at_call 139; go_loud (exact Calls.quiet_of_same (len_any _ (HL.out.drewN _)))) | (go_at_call 138; go_loud (exact Calls.quiet_of_same (bytes_any _ (HL.out.drewN _)))))
      go_wp2
      go_ret
      have hr := HR.out
      have hc : cutL P R L = (A, B) := by rw [hr.cut, cutL_no HO.out]; simp
      rw [hc]
      exact ⟨u3, v', rfl, hr.lost, hr.list.drewN _, hr.blk, hr.new, hr.ot.drewN _⟩
    | true =>
      obtain ⟨x, B', hB⟩ : ∃ x B', B = x :: B' := by
        cases B with
        | nil => rw [over_nil hP hR] at ho; cases ho
        | cons x B' => exact ⟨x, B', rfl⟩
      have HO : Hid (over P R B = true) := ho
      have hV := Hd.val_eq
      have hO : hdOr B = x := by rw [hB]; rfl
      have hE : B.isEmpty = false := by rw [hB]; rfl
      have HT : Hid (B.tail = B') := by rw [hB]; rfl
      have hla : A.length + 1 ≤ 1000000 := by have := hF.1; rw [HR.out.parts, hB] at this; simp at this; omega
      have HB : Hid (B = x :: B') := hB
      have HQ : Hid (∀ {u u' : Value} {v1 : Value} {w1 : World}, LAt w1 b T (frest P R hd more) v1 B.tail → Hs w1 u' (A ++ [x]) → v1.ownBlock = v'.ownBlock → (∀ k, u'.ownBlock = some k → w.heap.size ≤ k) → Ot (· = b) w w1 → CutR P R L w b T hd more v (A ++ [x]) B' u' v1 w1) := by
        intro u u' v1 w1 h1 h2 h3 h4 h5
        refine ⟨?_, ?_, HT.out ▸ h1, h2, h3.trans HR.out.blk, h4, h5⟩
        · rw [HR.out.parts, HB.out]; simp
        · rw [HR.out.cut, HB.out, cutL_yes (HB.out ▸ HO.out)]; simp
      clear ho hB
      have HS3 : Hid (∀ {n : Nat} (w1 : World), Ot (· = b) (wr.drewN n) w1 → Hs w1 u3 A) := by
        intro n w1 ho
        refine Seg.oth (S := (· = b)) (w := wr.drewN n) (HR.out.lost.drewN n) ho (fun k hk e => ?_)
        have := HR.out.new k hk
        omega
      cases o1 : decide (P < (B.length : Int)) with
      | true =>
        go_wp2
        go_quiet (first | (go_at_call 139; exact Calls.quiet_of_same (len_any _ (HL.out.drewN _))) | (go_at_call 138; exact Calls.quiet_of_same (bytes_any _ (HL.out.drewN _))))
        go_wp2_with (first | (go_at_call 145; refine (next_any _ (HL.out.drewN _) hFB).mono ?_; rintro e w1 ⟨rfl, v1, hl1, hk1, ho1⟩; have hs3 := HS3.out _ ho1) | (at_builtin; refine wpList_append_seg _ rfl (.tmp 35) (.tmp 37) 74 rfl 76 i0 _ 6 48 Tryz.underlying74 hi hz0 hz1 hz2 rfl (by decide) _ _ _ rfl (Hs.below hs3 (by repeat' (first | with_reducible exact Below.refl _ _ | with_reducible refine Below.drew ?_ | with_reducible refine below_alloc_ ?_ _))) ⟨w1.heap.size + 1, 0, none⟩ 1 1 x.cs rfl rfl (news_of (new_block_ (by simp))) x.one (by decide) (by unfold maxLen; omega) (by omega) _ rfl ?_; intro g off cap w2 hs2 hg2 ha2 hl2))
        go_roundw
        case rel =>
          refine ⟨A ++ [x], B', v1, HQ.out (u := u3) (hl1.grown (by repeat' (first | with_reducible exact Below.refl _ _ | with_reducible refine Below.drew ?_ | with_reducible refine below_alloc_ ?_ _)) hg2 ?_ ?_) (Hs.snoc hs2 rfl) hk1 ?_ ?_⟩
          · intro e; have := HR.out.new _ e; omega
          · intro k hk e
            have h1 := HR.out.new _ e
            have h2 := H.out.row.lt (b := k) (by rw [← HR.out.blk, ← hk1, hk])
            omega
          · intro k hk
            simp only [Value.ownBlock, Option.some.injEq] at hk
            subst hk
            rcases ha2 with ha2 | ha2
            · exact HR.out.new _ ha2
            · have h1 := HR.out.ot.size
              have h2 := ho1.size
              simp at ha2 h2
              omega
          · refine Ot.grown (row := u3.ownBlock) ?_ hg2 (fun k e => Or.inr (HR.out.new k e))
            refine Ot.alloc (Ot.alloc ?_ _) _
            exact (HR.out.ot.drewN _).trans ho1
        case measure =>
          have h1 := HR.out.lost.len
          have h2 : L.length = A.length + (B'.length + 1) := by rw [HR.out.parts, HB.out]; simp
          rw [h1]
          show L.length - (A.length + 1) < L.length - A.length
          omega
      | false =>
        have o2 : decide (R < sumL B) = true := by
          have := HO.out
          simp only [over, o1, Bool.false_or] at this
          exact this
        go_wp2
        go_quiet (first | (go_at_call 139; exact Calls.quiet_of_same (len_any _ (HL.out.drewN _))) | (go_at_call 138; exact Calls.quiet_of_same (bytes_any _ (HL.out.drewN _))))
        go_wp2_with (first | (go_at_call 145; refine (next_any _ (HL.out.drewN _) hFB).mono ?_; rintro e w1 ⟨rfl, v1, hl1, hk1, ho1⟩; have hs3 := HS3.out _ ho1) | (at_builtin; refine wpList_append_seg _ rfl (.tmp 35) (.tmp 37) 74 rfl 76 i0 _ 6 48 Tryz.underlying74 hi hz0 hz1 hz2 rfl (by decide) _ _ _ rfl (Hs.below hs3 (by repeat' (first | with_reducible exact Below.refl _ _ | with_reducible refine Below.drew ?_ | with_reducible refine below_alloc_ ?_ _))) ⟨w1.heap.size + 1, 0, none⟩ 1 1 x.cs rfl rfl (news_of (new_block_ (by simp))) x.one (by decide) (by unfold maxLen; omega) (by omega) _ rfl ?_; intro g off cap w2 hs2 hg2 ha2 hl2))
        go_roundw
        case rel =>
          refine ⟨A ++ [x], B', v1, HQ.out (u := u3) (hl1.grown (by repeat' (first | with_reducible exact Below.refl _ _ | with_reducible refine Below.drew ?_ | with_reducible refine below_alloc_ ?_ _)) hg2 ?_ ?_) (Hs.snoc hs2 rfl) hk1 ?_ ?_⟩
          · intro e; have := HR.out.new _ e; omega
          · intro k hk e
            have h1 := HR.out.new _ e
            have h2 := H.out.row.lt (b := k) (by rw [← HR.out.blk, ← hk1, hk])
            omega
          · intro k hk
            simp only [Value.ownBlock, Option.some.injEq] at hk
            subst hk
            rcases ha2 with ha2 | ha2
            · exact HR.out.new _ ha2
            · have h1 := HR.out.ot.size
              have h2 := ho1.size
              simp at ha2 h2
              omega
          · refine Ot.grown (row := u3.ownBlock) ?_ hg2 (fun k e => Or.inr (HR.out.new k e))
            refine Ot.alloc (Ot.alloc ?_ _) _
            exact (HR.out.ot.drewN _).trans ho1
        case measure =>
          have h1 := HR.out.lost.len
          have h2 : L.length = A.length + (B'.length + 1) := by rw [HR.out.parts, HB.out]; simp
          rw [h1]
          show L.length - (A.length + 1) < L.length - A.length
          omega

/-- NewFifo. -/
theorem newFifo_yes (P R : Int) (hd : Bool) (w : World) (hP : 0 ≤ P) (hP1 : P ≤ 1000000) (hR : 0 ≤ R) (hR1 : R ≤ 1000000) :
    Calls Tryz.prog 27 #[.int .i64 P, .int .i64 R, .bool hd] w fun e w' => e = .returned (.tuple #[.pointer (some ⟨w.heap.size, 0, none⟩), .nilIface]) ∧ LAt w' w.heap.size 110 (frest P R hd []) (.slice none 0 0) [] ∧ w' = w.alloc (.cells #[.slice none 0 0, .int .i64 0, .int .i64 P, .int .i64 R, .bool hd] 110) := by
  have a1 : decide (P < 0) = false := by simp; omega
  have a2 : decide (R < 0) = false := by simp; omega
  have a3 : decide (1000000 < P) = false := by simp; omega
  have a4 : decide (1000000 < R) = false := by simp; omega
  by_cases hPR : P < R
  · go_enter Tryz.func27, Tryz.ntmps27
    go_wp2
    all_goals
      go_ret2
      exact ⟨rfl, ⟨new_block _ _, Hs.nil _, by simp [Value.ownBlock]⟩, rfl⟩
  · go_enter Tryz.func27, Tryz.ntmps27
    go_wp2
    all_goals
      go_ret2
      exact ⟨rfl, ⟨new_block _ _, Hs.nil _, by simp [Value.ownBlock]⟩, rfl⟩
theorem newFifo_no (P R : Int) (hd : Bool) (w : World) (h : ¬ (0 ≤ P ∧ P ≤ 1000000 ∧ 0 ≤ R ∧ R ≤ 1000000)) :
    Calls Tryz.prog 27 #[.int .i64 P, .int .i64 R, .bool hd] w fun e w' => e = .returned (.tuple #[.pointer none, .iface 57 (.int .i64 2)]) ∧ w' = w := by
  by_cases hPR : P < R
  · by_cases h1 : P < 0
    · clear h
      go_enter Tryz.func27, Tryz.ntmps27
      go_wp2
      all_goals
        go_ret2
        exact ⟨rfl, rfl⟩
    · have h2 : 1000000 < R := by omega
      clear h
      go_enter Tryz.func27, Tryz.ntmps27
      go_wp2
      all_goals
        go_ret2
        exact ⟨rfl, rfl⟩
  · by_cases h1 : R < 0
    · clear h
      go_enter Tryz.func27, Tryz.ntmps27
      go_wp2
      all_goals
        go_ret2
        exact ⟨rfl, rfl⟩
    · have h2 : 1000000 < P := by omega
      clear h
      go_enter Tryz.func27, Tryz.ntmps27
      go_wp2
      all_goals
        go_ret2
        exact ⟨rfl, rfl⟩

theorem fifo_when {b : Nat} {T : TypeId} {rest : List Value} {v : Value} {L : List Hd} (now : Int) (w : World) (h : LAt w b T rest v L) :
    Calls Tryz.prog 142 #[.pointer (some ⟨b, 0, none⟩), .int .i64 now] w fun e w' => e = .returned (.tuple #[.int .i64 now, .bool (!L.isEmpty)]) ∧ w' = w := by
  have H : Hid (LAt w b T rest v L) := h
  have HE : Hid (decide (0 < L.length) = !L.isEmpty) := by
    cases L with
    | nil => rfl
    | cons x L => simp [Hid]
  clear h
  go_enter Tryz.func142, Tryz.ntmps142
  go_wp2_with (go_at_call 139; refine (len_any _ H.out).mono ?_; rintro e w1 ⟨rfl, rfl⟩)
  go_ret2
  exact ⟨by rw [← HE.out]; rfl, rfl⟩

theorem six_set {w : World} {b : Nat} {t : TypeId} {p0 p1 p2 p3 p4 p5 : Value} (h : w.heap[b]? = some (.cells #[p0, p1, p2, p3, p4, p5] t (0, 0))) (a0 a1 a2 a3 a4 a5 : Value) :
    ((((((w.setCell ⟨b, 0, none⟩ a0).setCell ⟨b, 1, none⟩ a1).setCell ⟨b, 2, none⟩ a2).setCell ⟨b, 3, none⟩ a3).setCell ⟨b, 4, none⟩ a4).setCell ⟨b, 5, none⟩ a5).heap[b]? = some (.cells #[a0, a1, a2, a3, a4, a5] t (0, 0)) := by
  rw [heap_setCell_here (heap_setCell_here (heap_setCell_here (heap_setCell_here (heap_setCell_here (heap_setCell_here h a0) a1) a2) a3) a4) a5]
  simp
theorem sizeHeld : (Tryz.prog.info? 76).map (·.size) = some 6 := by kernel_rfl
theorem load_held {w : World} {b : Nat} {t : TypeId} {fr : Nat × Nat} {x : Hd} (h : w.heap[b]? = some (.cells #[.int .i64 x.a, .int .i64 x.l, .int .i64 x.f, .int .i64 x.b, .int .i64 x.m, .int .i64 x.n] t fr)) : (loadVar 76 ⟨b, 0, none⟩).run Tryz.prog w = .ok x.val w :=
  run_loadVar_row w b t 76 _ fr _ h Tryz.underlying76 rfl sizeHeld
theorem results_cell_tmp2 {fn : Func} {p u u2 : Tmp} {ty : TypeId} (h : fn.results = #[.cell p ty, .tmp u, .tmp u2]) (tmps : Array Value) (P : Program) (w : World) :
    (results fn tmps).run P w =
      ((asAddr (tmps.getD p undef)).run P w).andThen fun a w₁ => ((loadVar ty a).run P w₁).andThen fun v w₂ => .ok (.tuple #[v, tmps.getD u undef, tmps.getD u2 undef]) w₂ := by
  simp only [results, h]
  simp [Sem.run_bind, Result.andThen]
set_option maxHeartbeats 1000000 in
theorem fifo_take {b : Nat} {T : TypeId} {rest : List Value} {v : Value} {L : List Hd} (now : Int) (w : World) (h : LAt w b T rest v L) (hF : Fit L) :
    Calls Tryz.prog 141 #[.pointer (some ⟨b, 0, none⟩), .int .i64 now] w fun e w' => e = .returned (.tuple #[(hdOr L).val, .slice none 0 0, .bool (!L.isEmpty)]) ∧ ∃ v', LAt w' b T rest v' L.tail ∧ v'.ownBlock = v.ownBlock ∧ Ot (· = b) w w' := by
  have H : Hid (LAt w b T rest v L) := h
  have hb := h.lt
  clear h
  have hV := Hd.val_eq
  go_enter Tryz.func141, Tryz.ntmps141
  go_wp2_with (go_at_call 145; refine (next_any _ (H.out.below ((Below.refl _ _).alloc (Nat.le_refl _) _)) hF).mono ?_; rintro e w1 ⟨rfl, v1, hl1, hk1, ho1⟩; obtain ⟨hs1, hz⟩ := after_ot ho1 (by omega); obtain ⟨⟨z0, z1, z2, z3, z4, z5⟩, y0, y1, y2, y3, y4, y5⟩ := six hz)
  (try simp only [Exit.inBlock, Exit.then])
  refine bodyPost_ret (v := .tuple #[(hdOr L).val, .slice none 0 0, .bool (!L.isEmpty)]) ?_ rfl ⟨rfl, v1, LAt.ot (S := (· = w.heap.size)) hl1 ?_ ?_ ?_, hk1, ?_⟩
  · rw [results_cell_tmp2 rfl]
    have hld := load_held (x := hdOr L) (six_set (six_set hz (.int .i64 (hdOr L).a) (.int .i64 (hdOr L).l) (.int .i64 (hdOr L).f) (.int .i64 (hdOr L).b) (.int .i64 (hdOr L).m) (.int .i64 (hdOr L).n)) (.int .i64 (hdOr L).a) (.int .i64 (hdOr L).l) (.int .i64 (hdOr L).f) (.int .i64 (hdOr L).b) (.int .i64 (hdOr L).m) (.int .i64 (hdOr L).n))
    simp [asAddr, Result.andThen, hld]
  · repeat' (first | with_reducible exact Ot.refl _ _ | with_reducible refine Ot.setCell ?_ (by simp) _)
  · omega
  · intro k hk; have := H.out.row.lt (b := k) (by rw [← hk1, hk]); omega
  · have hO : Ot (· = b) w w1 := (Ot.of_below ((Below.refl _ _).alloc (Nat.le_refl _) _)).trans ho1
    repeat' (first | with_reducible exact hO | with_reducible refine Ot.setCell ?_ (by simp) _)

/-- What Put throws away, and what waits then. -/
def putF (P R : Int) (hd : Bool) (L : List Hd) (x : Hd) : List Hd × List Hd :=
  if hd then cutL P R (L ++ [x]) else if decide (P ≤ (L.length : Int)) || decide (R - sumL L < x.l) then ([x], L) else ([], L ++ [x])
theorem putF_head (P R : Int) (L : List Hd) (x : Hd) : putF P R true L x = cutL P R (L ++ [x]) := rfl
theorem putF_full {P R : Int} {L : List Hd} {x : Hd} (h : (decide (P ≤ (L.length : Int)) || decide (R - sumL L < x.l)) = true) : putF P R false L x = ([x], L) := by simp only [putF, h]; rfl
theorem putF_room {P R : Int} {L : List Hd} {x : Hd} (h : (decide (P ≤ (L.length : Int)) || decide (R - sumL L < x.l)) = false) : putF P R false L x = ([], L ++ [x]) := by simp only [putF, h]; rfl
theorem Hs.one {w : World} {b : Nat} {x : Hd} (h : w.heap[b]? = some (.cells x.cs.toArray 76 (0, 0))) : Hs w (.slice (some ⟨b, 0, none⟩) 1 1) [x] := by
  refine ⟨rfl, Or.inr ⟨b, 0, 1, _, rfl, h, by simp, by decide, by simp [Hd.cs], fun j u hj => ?_⟩⟩
  rw [flt_one] at hj
  simpa using hj
set_option maxHeartbeats 2000000 in
theorem fifo_put {b : Nat} {T : TypeId} {P R : Int} {hd : Bool} {more : List Value} {v : Value} {L : List Hd} (now : Int) (x : Hd) (w : World) (h : LAt w b T (frest P R hd more) v L) (hF : Fit (L ++ [x])) (hP : 0 ≤ P) (hR : 0 ≤ R) (hR1 : R ≤ 1000000) :
    Calls Tryz.prog 140 #[.pointer (some ⟨b, 0, none⟩), .int .i64 now, x.val] w fun e w' => ∃ u v', e = .returned u ∧ Hs w' u (putF P R hd L x).1 ∧ LAt w' b T (frest P R hd more) v' (putF P R hd L x).2 ∧ (∀ k, v'.ownBlock = some k → v.ownBlock = some k ∨ w.heap.size ≤ k) ∧ (∀ k, u.ownBlock = some k → w.heap.size ≤ k) ∧ Ot (fun k => k = b ∨ v.ownBlock = some k) w w' := by
  have H : Hid (LAt w b T (frest P R hd more) v L) := h
  have HA : Hid (∀ (o : Obj) (n : Nat), LAt ((w.alloc o).drewN n) b T (frest P R hd more) v L) := fun o n => (h.below ((Below.refl _ _).alloc (Nat.le_refl _) _)).drewN n
  have hb := h.lt
  obtain ⟨c0, c1, f0, f1⟩ := h.cells
  obtain ⟨c2, c3, c4⟩ := fifo_cells h
  clear h
  have hV := Hd.val_eq
  cases hd with
  | true =>
    go_enter Tryz.func140, Tryz.ntmps140
    go_wp2
    go_region_with (go_at_call 143; refine (add_any x _ (HA.out _ _) hF).mono ?_; rintro e w1 ⟨rfl, v1, hl1, hk1, ho1⟩)
    go_wp2_with (go_at_call 144; refine (cut_any _ hl1 hF hP hR).mono ?_; rintro e w2 ⟨u, v2, rfl, hu2, hl2, hk2, hn2, ho2⟩)
    go_ret
    have hO1 : Ot (fun k => k = b ∨ v.ownBlock = some k) w w1 := ((Ot.of_below ((Below.refl _ _).alloc (Nat.le_refl _) _)).drew).trans ho1
    have hs1 := hO1.size
    refine ⟨u, v2, rfl, hu2, hl2, ?_, ?_, hO1.trans (ho2.mono (fun k _ e => Or.inl e))⟩
    · intro k hk
      rw [hk2] at hk
      rcases hk1 k hk with h | h
      · exact Or.inl h
      · right; simp at h; omega
    · intro k hk
      have := hn2 k hk
      omega
  | false =>
    have hwr : IntKind.i64.wrap (R - sumL L) = R - sumL L := by
      have h1 := Fit.sum hF.pref.2
      have h2 := hF.pref.1
      rw [IntKind.wrap_i64]
      omega
    cases o1 : decide (P ≤ (L.length : Int)) with
    | true =>
      have HO : Hid ((decide (P ≤ (L.length : Int)) || decide (R - sumL L < x.l)) = true) := by simp only [Hid, o1, Bool.true_or]
      go_enter Tryz.func140, Tryz.ntmps140
      go_wp2
      go_quiet (first | (go_at_call 139; exact Calls.quiet_of_same (len_any _ (HA.out _ _))) | (go_at_call 138; exact Calls.quiet_of_same (bytes_any _ (HA.out _ _))))
      go_wp2
      go_ret
      rw [putF_full HO.out]
      refine ⟨.slice (some ⟨w.heap.size + 1, 0, none⟩) 1 1, v, rfl, Hs.one (x := x) (new_block_ (by simp)), (HA.out _ _).below (below_alloc_ (Below.refl _ _) _), fun k hk => Or.inl hk, ?_, Ot.alloc (Ot.drewN (Ot.alloc (Ot.refl _ _) _) _) _⟩
      intro k hk
      simp only [Value.ownBlock, Option.some.injEq] at hk
      omega
    | false =>
      cases o2 : decide (R - sumL L < x.l) with
      | true =>
        have HO : Hid ((decide (P ≤ (L.length : Int)) || decide (R - sumL L < x.l)) = true) := by simp only [Hid, o2, Bool.or_true]
        go_enter Tryz.func140, Tryz.ntmps140
        go_wp2
        go_quiet (first | (go_at_call 139; exact Calls.quiet_of_same (len_any _ (HA.out _ _))) | (go_at_call 138; exact Calls.quiet_of_same (bytes_any _ (HA.out _ _))))
        go_wp2
        go_ret
        rw [putF_full HO.out]
        refine ⟨.slice (some ⟨w.heap.size + 1, 0, none⟩) 1 1, v, rfl, Hs.one (x := x) (new_block_ (by simp)), (HA.out _ _).below (below_alloc_ (Below.refl _ _) _), fun k hk => Or.inl hk, ?_, Ot.alloc (Ot.drewN (Ot.alloc (Ot.refl _ _) _) _) _⟩
        intro k hk
        simp only [Value.ownBlock, Option.some.injEq] at hk
        omega
      | false =>
        have HO : Hid ((decide (P ≤ (L.length : Int)) || decide (R - sumL L < x.l)) = false) := by simp only [Hid, o1, o2, Bool.or_false]
        go_enter Tryz.func140, Tryz.ntmps140
        go_wp2
        go_quiet (first | (go_at_call 139; exact Calls.quiet_of_same (len_any _ (HA.out _ _))) | (go_at_call 138; exact Calls.quiet_of_same (bytes_any _ (HA.out _ _))))
        go_wp2
        go_region_with (go_at_call 143; refine (add_any x _ ((HA.out _ _).drewN 1) hF).mono ?_; rintro e w1 ⟨rfl, v1, hl1, hk1, ho1⟩)
        go_wp2
        go_ret
        rw [putF_room HO.out]
        refine ⟨_, v1, rfl, Hs.nil _, hl1, ?_, fun k hk => by simp [Value.ownBlock] at hk, (((Ot.of_below ((Below.refl _ _).alloc (Nat.le_refl _) _)).drewN _).drew).trans ho1⟩
        intro k hk
        rcases hk1 k hk with h | h
        · exact Or.inl h
        · right; simp at h; omega
end Go.Proofs.YtfakjedolecdcaaGreatDoor
