/-
  A list at the head of a block, its other cells; what a call hands back. Nothing of the program is claimed here by itself.
  fair.Rounds: what begin and send do. Conditions: they lie in memory; numbers within bounds; the flow has its turn.
  fair.Rounds: what send does. Conditions: they lie in memory; numbers within bounds; the flow has its turn and a packet.
-/
import Derived.Test.YtfakjedolecdcaaGreatDoorGc
import Derived.Test.YtfakjedolecdcaaGreatDoorGt
namespace Go.Proofs.YtfakjedolecdcaaGreatDoor
open Go.RowKit Go.Extern.Stop Go.Stop Go.Extern

theorem LAt.cell {w : World} {b : Nat} {T : TypeId} {rest : List Value} {v : Value} {L : List Hd} (h : LAt w b T rest v L) {i : Nat} {u : Value} (hi : (v :: .int .i64 (sumL L) :: rest)[i]? = some u) : w.cell? ⟨b, i, none⟩ = some u ∧ w.frozen? ⟨b, i, none⟩ = false := by
  have := h.blk
  constructor
  · simp only [World.cell?, this]; simpa using hi
  · simp [World.frozen?, this]
/-- A cell behind the list is written. -/
theorem LAt.rest {w : World} {b : Nat} {T : TypeId} {rest rest' : List Value} {v : Value} {L : List Hd} (h : LAt w b T rest v L) (i : Nat) (u : Value) (hr : rest' = rest.set i u) : LAt (w.setCell ⟨b, i + 2, none⟩ u) b T rest' v L := by
  subst hr
  refine ⟨?_, h.row.setCell (p := ⟨b, i + 2, none⟩) h.ne _, h.ne⟩
  rw [heap_setCell_here h.blk u]
  simp
theorem LAt.six {w : World} {b : Nat} {T : TypeId} {rest : List Value} {v : Value} {L : List Hd} (h : LAt w b T rest v L) {r : Nat} (hr : r ≠ b) (hv : ∀ k, v.ownBlock = some k → k ≠ r) (a0 a1 a2 a3 a4 a5 : Value) :
    LAt ((((((w.setCell ⟨r, 0, none⟩ a0).setCell ⟨r, 1, none⟩ a1).setCell ⟨r, 2, none⟩ a2).setCell ⟨r, 3, none⟩ a3).setCell ⟨r, 4, none⟩ a4).setCell ⟨r, 5, none⟩ a5) b T rest v L := by
  refine h.ot (S := (· = r)) ?_ (fun e => hr e.symm) hv
  repeat' (first | with_reducible exact Ot.refl _ _ | with_reducible refine Ot.setCell ?_ (by simp) _)
theorem heap_other {w : World} {b i r : Nat} {u : Value} {o : Option Obj} (hr : r ≠ b) (h : w.heap[r]? = o) : (w.setCell ⟨b, i, none⟩ u).heap[r]? = o := by
  rw [Below.heap_setCell _ _ _ _ hr]
  exact h
theorem ret_held2 {fn : Func} {p u u2 : Tmp} (h : fn.results = #[.cell p 76, .tmp u, .tmp u2]) {tmps : Array Value} {w : World} {r : Nat} {x : Hd} {t : TypeId} {fr : Nat × Nat} {v1 v2 : Value} (hp : tmps.getD p undef = .pointer (some ⟨r, 0, none⟩)) (hx : w.heap[r]? = some (.cells #[.int .i64 x.a, .int .i64 x.l, .int .i64 x.f, .int .i64 x.b, .int .i64 x.m, .int .i64 x.n] t fr)) (h1 : tmps.getD u undef = v1) (h2 : tmps.getD u2 undef = v2) :
    (results fn tmps).run Tryz.prog w = .ok (.tuple #[x.val, v1, v2]) w := by
  rw [results_cell_tmp2 h, hp, h1, h2]
  simp [asAddr, Result.andThen, load_held hx]
theorem heap_drew {w : World} {q r : Nat} {o : Option Obj} (h : w.heap[r]? = o) : (w.drewN q).heap[r]? = o := h
theorem heap_six {w : World} {r j : Nat} {o : Option Obj} {a0 a1 a2 a3 a4 a5 : Value} (hne : j ≠ r) (h : w.heap[j]? = o) : ((((((w.setCell ⟨r, 0, none⟩ a0).setCell ⟨r, 1, none⟩ a1).setCell ⟨r, 2, none⟩ a2).setCell ⟨r, 3, none⟩ a3).setCell ⟨r, 4, none⟩ a4).setCell ⟨r, 5, none⟩ a5).heap[j]? = o :=
  heap_other hne (heap_other hne (heap_other hne (heap_other hne (heap_other hne (heap_other hne h)))))
end Go.Proofs.YtfakjedolecdcaaGreatDoor
namespace Go.Proofs.YtfakjedolecdcaaGreatDoor
open Go.RowKit Go.Extern.Stop Go.Stop Go.Extern

theorem Ot.here {b i : Nat} {a w : World} (h : Ot (· = b) a w) (u : Value) : Ot (· = b) a (w.setCell ⟨b, i, none⟩ u) := Ot.setCell h (Or.inl rfl) u
def beginS (q : Nat → Int) (s : RnS) (f : Nat) : RnS := if s.bg then s else { s with bg := true, cr := updF s.cr f (s.cr f + q f) }
theorem RnP.cells {w : World} {b : Nat} {room : Int} {q : Nat → Int} {C : Nat → Value} {vs : Nat → Value} {tv : Value} {s : RnS} (h : RnP w b room q C vs tv s) : (w.cell? ⟨b, 0, none⟩ = some (.int .i64 room) ∧ w.cell? ⟨b, 65, none⟩ = some tv ∧ w.cell? ⟨b, 66, none⟩ = some (.bool s.bg)) ∧ w.frozen? ⟨b, 65, none⟩ = false ∧ w.frozen? ⟨b, 66, none⟩ = false := by
  have a0 := h.blk.cell (i := 0) (by omega)
  have a1 := h.blk.cell (i := 65) (by omega)
  have a2 := h.blk.cell (i := 66) (by omega)
  rw [h.c0] at a0
  rw [h.ct] at a1
  rw [h.cb] at a2
  exact ⟨⟨a0.1, a1.1, a2.1⟩, a1.2, a2.2⟩
theorem RnP.flow {w : World} {b : Nat} {room : Int} {q : Nat → Int} {C : Nat → Value} {vs : Nat → Value} {tv : Value} {s : RnS} (h : RnP w b room q C vs tv s) {f : Nat} (hf : f < 16) : w.cell? ⟨b, 1 + f, none⟩ = some (.int .i64 (q f)) ∧ w.cell? ⟨b, 17 + f, none⟩ = some (.int .i64 (s.cr f)) ∧ w.frozen? ⟨b, 17 + f, none⟩ = false := by
  have a0 := h.blk.cell (i := 1 + f) (by omega)
  have a1 := h.blk.cell (i := 17 + f) (by omega)
  rw [h.cq f hf] at a0
  rw [h.cc f hf] at a1
  exact ⟨a0.1, a1.1, a1.2⟩
set_option maxHeartbeats 1000000 in
theorem rbegin_any {b : Nat} {room : Int} {q : Nat → Int} {C : Nat → Value} {vs : Nat → Value} {tv : Value} {s : RnS} (f : Nat) (w : World) (h : RnP w b room q C vs tv s) (hf : f < 16) (hc0 : 0 ≤ s.cr f) (hc1 : s.cr f ≤ 2000000) (hq0 : 1 ≤ q f) (hq1 : q f ≤ 1000000) :
    Calls Tryz.prog 183 #[.pointer (some ⟨b, 0, none⟩), .int .i64 f] w fun e w' => e = .returned (.tuple #[]) ∧ ∃ C', RnP w' b room q C' vs tv (beginS q s f) ∧ Ot (· = b) w w' := by
  have H : Hid (RnP w b room q C vs tv s) := h
  obtain ⟨⟨c0, c65, c66⟩, f65, f66⟩ := h.cells
  obtain ⟨d0, d1, d2⟩ := h.flow hf
  have hb := h.blk.lt
  clear h
  have hw : IntKind.i64.wrap (s.cr f + q f) = s.cr f + q f := by rw [IntKind.wrap_i64]; omega
  cases hbg : s.bg with
  | true =>
    have hB : beginS q s f = s := by rw [beginS, hbg]; rfl
    rw [hB]
    rw [hbg] at c66
    clear hB hbg
    go_enter Tryz.func183, Tryz.ntmps183
    go_wp2
    go_end0
    exact ⟨rfl, C, H.out, Ot.refl _ _⟩
  | false =>
    have hB : beginS q s f = { s with bg := true, cr := updF s.cr f (s.cr f + q f) } := by rw [beginS, hbg]; rfl
    rw [hB]
    rw [hbg] at c66
    clear hB hbg
    go_enter Tryz.func183, Tryz.ntmps183
    go_wp2
    all_goals go_region
    all_goals go_wp2
    all_goals
      go_end0
      exact ⟨rfl, _, ((H.out.setB true).setC hf _).drewN 1, (Ot.here (Ot.here (Ot.refl _ _) _) _).drew⟩
/-- What a method leaves of Rounds. -/
structure RnO (w : World) (b : Nat) (room : Int) (q : Nat → Int) (vs : Nat → Value) (tv : Value) (s' : RnS) (w' : World) (C' : Nat → Value) (vs' : Nat → Value) (tv' : Value) : Prop where
  pos : RnP w' b room q C' vs' tv' s'
  own : ∀ k, RnF b vs' tv' k → RnF b vs tv k ∨ w.heap.size ≤ k
  ot : Ot (RnF b vs tv) w w'
theorem RnO.trans {w w1 w2 : World} {b : Nat} {room : Int} {q : Nat → Int} {vs vs1 vs2 : Nat → Value} {tv tv1 tv2 : Value} {s1 s2 : RnS} {C1 C2 : Nat → Value} (h : RnO w b room q vs tv s1 w1 C1 vs1 tv1) (k : RnO w1 b room q vs1 tv1 s2 w2 C2 vs2 tv2) : RnO w b room q vs tv s2 w2 C2 vs2 tv2 := by
  have hs := h.ot.size
  refine ⟨k.pos, fun j hj => ?_, h.ot.trans' k.ot (fun j hj hlt => ?_)⟩
  · rcases k.own j hj with h1 | h1
    · exact h.own j h1
    · exact Or.inr (by omega)
  · rcases h.own j hj with h1 | h1
    · exact h1
    · omega
theorem rno_listed {w w' : World} {b : Nat} {room : Int} {q : Nat → Int} {C : Nat → Value} {vs : Nat → Value} {tv : Value} {s : RnS} (h : RnP w b room q C vs tv s) {f : Nat} (hf : f < 16) {v' : Value} {L' : List Hd} (hl : LO w' b 67 164 (updL C (33 + f * 2) v' L') (33 + f * 2) v' L') (ho : ∀ k, v'.ownBlock = some k → (vs f).ownBlock = some k ∨ w.heap.size ≤ k) (hot : Ot (fun k => k = b ∨ (vs f).ownBlock = some k) w w') : RnO w b room q vs tv { s with fl := updF s.fl f L' } w' (updL C (33 + f * 2) v' L') (updF vs f v') tv := by
  refine ⟨h.listed hf hl ho hot, fun k hk => ?_, hot.mono (fun k _ hk => ?_)⟩
  · rcases hk with rfl | ⟨g, hg, hv⟩ | hv
    · exact Or.inl (Or.inl rfl)
    · by_cases e : g = f
      · subst e
        rw [updF_same] at hv
        rcases ho k hv with h1 | h1
        · exact Or.inl (Or.inr (Or.inl ⟨g, hg, h1⟩))
        · exact Or.inr h1
      · rw [updF_ne e] at hv
        exact Or.inl (Or.inr (Or.inl ⟨g, hg, hv⟩))
    · exact Or.inl (Or.inr (Or.inr hv))
  · rcases hk with h1 | h1
    · exact Or.inl h1
    · exact Or.inr (Or.inl ⟨f, hf, h1⟩)
theorem rno_turned {w w' : World} {b : Nat} {room : Int} {q : Nat → Int} {C : Nat → Value} {vs : Nat → Value} {tv tv' : Value} {s : RnS} {l : List Int} (h : RnP w b room q C vs tv s) (hp : TPost w b 67 164 C 65 tv l w' tv') : RnO w b room q vs tv { s with tn := l } w' (updC C 65 tv') vs tv' := by
  refine ⟨h.turned hp, fun k hk => ?_, hp.ot.mono (fun k _ hk => ?_)⟩
  · rcases hk with h1 | h1 | h1
    · exact Or.inl (Or.inl h1)
    · exact Or.inl (Or.inr (Or.inl h1))
    · rcases hp.own k h1 with h2 | h2
      · exact Or.inl (Or.inr (Or.inr h2))
      · exact Or.inr h2
  · rcases hk with h1 | h1
    · exact Or.inl h1
    · exact Or.inr (Or.inr h1)
theorem rno_same {w w' : World} {b : Nat} {room : Int} {q : Nat → Int} {C' : Nat → Value} {vs : Nat → Value} {tv : Value} {s' : RnS} (h' : RnP w' b room q C' vs tv s') (ho : Ot (RnF b vs tv) w w') : RnO w b room q vs tv s' w' C' vs tv := ⟨h', fun _ hk => Or.inl hk, ho⟩
end Go.Proofs.YtfakjedolecdcaaGreatDoor
namespace Go.Proofs.YtfakjedolecdcaaGreatDoor
open Go.RowKit Go.Extern.Stop Go.Stop Go.Extern

theorem ret_held1 {fn : Func} {p : Tmp} (h : fn.results = #[.cell p 76]) {tmps : Array Value} {w : World} {r : Nat} {x : Hd} {t : TypeId} {fr : Nat × Nat} (hp : tmps.getD p undef = .pointer (some ⟨r, 0, none⟩)) (hx : w.heap[r]? = some (.cells #[.int .i64 x.a, .int .i64 x.l, .int .i64 x.f, .int .i64 x.b, .int .i64 x.m, .int .i64 x.n] t fr)) :
    (results fn tmps).run Tryz.prog w = .ok x.val w := by
  rw [Array.getD_eq_getD_getElem?] at hp
  simp only [results, h]
  simp [hp, asAddr, load_held hx]
/-- One is sent. -/
def fsendS (s : RnS) (f : Nat) (x : Hd) (L : List Hd) : RnS := { fl := updF s.fl f L, cr := updF s.cr f (s.cr f - x.l), tn := if L.isEmpty then s.tn.tail else s.tn, bg := if L.isEmpty then false else s.bg }
theorem updF_twice {α : Type} (g : Nat → α) (i : Nat) (x y : α) : updF (updF g i x) i y = updF g i y := by
  funext j
  unfold updF
  split <;> rfl
set_option maxRecDepth 20000 in
set_option maxHeartbeats 4000000 in
theorem fsend_any {b : Nat} {room : Int} {q : Nat → Int} {C : Nat → Value} {vs : Nat → Value} {tv : Value} {s : RnS} (f : Nat) (x : Hd) (L : List Hd) (B : List Int) (w : World) (h : RnP w b room q C vs tv s) (hf : f < 16) (hL : s.fl f = x :: L) (ht : s.tn = (f : Int) :: B) (hB : (f : Int) ∉ B) (hl : s.tn.length ≤ 1000) (hF : Fit (x :: L)) (hc0 : 0 ≤ s.cr f) (hc1 : s.cr f ≤ 4000000) :
    Calls Tryz.prog 184 #[.pointer (some ⟨b, 0, none⟩), .int .i64 f] w fun e w' => e = .returned x.val ∧ ∃ C' vs' tv', RnO w b room q vs tv (fsendS s f x L) w' C' vs' tv' := by
  have H : Hid (RnP w b room q C vs tv s) := h
  have hb := h.blk.lt
  have hV := Hd.val_eq
  have hx := hF.2 x (by simp)
  have HNX : Hid (∀ W : World, Below w.heap.size w W → Calls Tryz.prog 145 #[.pointer (some ⟨b, 33 + f * 2, none⟩)] W fun e w' => e = .returned (.tuple #[x.val, .bool true]) ∧ ∃ v', LO w' b 67 164 (updL C (33 + f * 2) v' L) (33 + f * 2) v' L ∧ v'.ownBlock = (vs f).ownBlock ∧ Ot (· = b) W w') := by
    intro W hW
    have hl := ((h.below hW).list hf)
    rw [hL] at hl
    exact nextO_any W hl hF
  have HW : Hid (IntKind.i64.wrap (s.cr f - x.l) = s.cr f - x.l) := by show _ = _; rw [IntKind.wrap_i64]; omega
  clear h
  go_enter Tryz.func184, Tryz.ntmps184
  go_wp2_with (go_at_call 145; fail)
  refine (HNX.out _ (below_alloc_ (Below.refl _ _) _)).mono ?_
  rintro e w1 ⟨rfl, v1, hl1, hk1, ho1⟩
  obtain ⟨hs1, hz⟩ := after_ot ho1 (by omega)
  have hR1 : RnO w b room q vs tv { s with fl := updF s.fl f L } w1 (updL C (33 + f * 2) v1 L) (updF vs f v1) tv := by
    have h1 := rno_listed (H.out.al _) hf hl1 (fun k hk => Or.inl (by rw [← hk1]; exact hk)) (ho1.mono (fun k _ e => Or.inl e))
    exact ⟨h1.pos, fun k hk => by rcases h1.own k hk with h | h; exact Or.inl h; exact Or.inr (by simp at h; omega), (Ot.alloc (Ot.refl _ w) _).trans h1.ot⟩
  have HR1 : Hid (RnO w b room q vs tv { s with fl := updF s.fl f L } w1 (updL C (33 + f * 2) v1 L) (updF vs f v1) tv) := hR1
  obtain ⟨⟨z0, z1, z2, z3, z4, z5⟩, y0, y1, y2, y3, y4, y5⟩ := six hz
  obtain ⟨d0, d1, d2⟩ := hR1.pos.flow hf
  obtain ⟨⟨c0, c65, c66⟩, f65, f66⟩ := hR1.pos.cells
  have hbs := hR1.pos.blk.lt
  have hw := HW.out
  have hbn1 : ¬ b = w1.heap.size := by omega
  have hbn2 : ¬ w1.heap.size = b := by omega
  have hwn1 : ¬ w.heap.size = w1.heap.size := by omega
  simp only at d1 c66
  have HOLD : Hid (∀ k, RnF b (updF vs f v1) tv k → RnF b vs tv k) := by
    intro k hk
    rcases hk with h | ⟨g, hg, hv⟩ | h
    · exact Or.inl h
    · by_cases e : g = f
      · subst e
        rw [updF_same, hk1] at hv
        exact Or.inr (Or.inl ⟨g, hg, hv⟩)
      · rw [updF_ne e] at hv
        exact Or.inr (Or.inl ⟨g, hg, hv⟩)
    · exact Or.inr (Or.inr h)
  have HLOW : Hid (∀ k, RnF b (updF vs f v1) tv k → k < w.heap.size) := fun k hk => H.out.low (HOLD.out k hk)
  clear hR1 hl1 ho1 hk1
  go_wp2
  all_goals go_region
  all_goals go_wp2_with (go_at_call 139; fail)
  obtain ⟨W2, hW2⟩ : ∃ W2, ((w1.setCell ⟨b, 17 + f, none⟩ (.int .i64 (s.cr f - x.l))).alloc (.cells #[.int .i64 x.a, .int .i64 x.l, .int .i64 x.f, .int .i64 x.b, .int .i64 x.m, .int .i64 x.n] 76)).drew = W2 := ⟨_, rfl⟩
  have HP2 : Hid (RnP W2 b room q (updC (updL C (33 + f * 2) v1 L) (17 + f) (.int .i64 (s.cr f - x.l))) (updF vs f v1) tv { s with fl := updF s.fl f L, cr := updF s.cr f (s.cr f - x.l) }) := by
    show RnP _ _ _ _ _ _ _ _
    rw [← hW2]
    exact (((HR1.out.pos.setC hf _).al _).drewN 1)
  have HO2 : Hid (Ot (RnF b vs tv) w W2) := by
    show Ot _ _ _
    rw [← hW2]
    exact (Ot.alloc (Ot.setCell HR1.out.ot (Or.inl (Or.inl rfl)) _) _).drew
  have hs2 : W2.heap.size = w1.heap.size + 1 := by rw [← hW2]; simp
  have hx2 : W2.heap[w1.heap.size]? = some (.cells #[.int .i64 x.a, .int .i64 x.l, .int .i64 x.f, .int .i64 x.b, .int .i64 x.m, .int .i64 x.n] 76 (0, 0)) := by rw [← hW2]; exact new_block_ (by simp)
  have hr2 : W2.heap[w.heap.size]? = some (.cells #[.int .i64 0, .int .i64 0, .int .i64 0, .int .i64 0, .int .i64 0, .int .i64 0] 76 (0, 0)) := by
    rw [← hW2]
    exact (Below.heap_alloc _ _ _ (by simpa using hs1)).trans (heap_other (by omega) hz)
  rw [hW2]
  clear hW2 z0 z1 z2 z3 z4 z5 y0 y1 y2 y3 y4 y5 d0 d1 d2 c0 c65 c66 f65 f66 hz hbs hw
  have HLN := lenO_any W2 (HP2.out.list hf)
  simp only [updF_same] at HLN
  obtain ⟨⟨z0, z1, z2, z3, z4, z5⟩, y0, y1, y2, y3, y4, y5⟩ := six hx2
  obtain ⟨⟨r0, r1, r2, r3, r4, r5⟩, t0, t1, t2, t3, t4, t5⟩ := six hr2
  have hb2 : b < W2.heap.size := by omega
  have hw2 : w.heap.size < W2.heap.size := by omega
  have hw12 : w1.heap.size < W2.heap.size := by omega
  refine HLN.mono ?_
  rintro e w3 ⟨rfl, hw3⟩
  subst hw3
  have hlw := HLOW.out
  cases L with
  | nil =>
    have HS : Hid (fsendS s f x [] = { fl := updF s.fl f [], cr := updF s.cr f (s.cr f - x.l), tn := B, bg := false }) := by show _ = _; rw [fsendS, ht]; rfl
    have hT : TO w3 b 67 164 (updC (updL C (33 + f * 2) v1 []) (17 + f) (.int .i64 (s.cr f - x.l))) 65 tv ([] ++ (f : Int) :: B) := by
      have := HP2.out.turns
      simp only [ht] at this
      exact this
    have HLV := leave_any [] B (f : Int) w3 hT (by simp) hB (by rw [ht] at hl; simpa using hl)
    have htl : ∀ k, tv.ownBlock = some k → k < w.heap.size := fun k hk => hlw k (Or.inr (Or.inr hk))
    clear hT
    go_wp2_with (go_at_call 171; fail)
    refine HLV.mono ?_
    rintro e w4 ⟨rfl, tv4, hp4⟩
    have hO4 := hp4.ot
    have hR4 := rno_turned HP2.out hp4
    have hx4 : w4.heap[w1.heap.size]? = _ := (hO4.block _ hw12 (by rintro (e | e); omega; have := htl _ e; omega)).trans hx2
    have hr4 : w4.heap[w.heap.size]? = _ := (hO4.block _ hw2 (by rintro (e | e); omega; have := htl _ e; omega)).trans hr2
    obtain ⟨⟨z0', z1', z2', z3', z4', z5'⟩, y0', y1', y2', y3', y4', y5'⟩ := six hx4
    obtain ⟨⟨r0', r1', r2', r3', r4', r5'⟩, t0', t1', t2', t3', t4', t5'⟩ := six hr4
    obtain ⟨⟨c0, c65, c66⟩, f65, f66⟩ := hR4.pos.cells
    have hb4 := hR4.pos.blk.lt
    have hw4 := lt_of_block hr4
    have hw14 := lt_of_block hx4
    have HR4 : Hid (RnO w3 b room q (updF vs f v1) tv { fl := updF s.fl f [], cr := updF s.cr f (s.cr f - x.l), tn := [] ++ B, bg := s.bg } w4 (updC (updC (updL C (33 + f * 2) v1 []) (17 + f) (.int .i64 (s.cr f - x.l))) 65 tv4) (updF vs f v1) tv4) := hR4
    clear hR4 hp4 hO4 HLV
    go_wp2
    (try simp only [Exit.inBlock, Exit.then])
    refine bodyPost_ret (v := x.val) (ret_held1 rfl rfl (six_set (heap_other (by omega) hr4) _ _ _ _ _ _)) rfl ⟨rfl, updC (updC (updC (updL C (33 + f * 2) v1 []) (17 + f) (.int .i64 (s.cr f - x.l))) 65 tv4) 66 (.bool false), updF vs f v1, tv4, ?_⟩
    rw [HS.out]
    have hnr : ¬ RnF b (updF vs f v1) tv4 w.heap.size := by
      intro hk
      rcases HR4.out.own _ hk with h | h
      · have := hlw _ h; omega
      · omega
    have hQ : RnP (w4.setCell ⟨b, 66, none⟩ (.bool false)) b room q (updC (updC (updC (updL C (33 + f * 2) v1 []) (17 + f) (.int .i64 (s.cr f - x.l))) 65 tv4) 66 (.bool false)) (updF vs f v1) tv4 { fl := updF s.fl f [], cr := updF s.cr f (s.cr f - x.l), tn := B, bg := false } := HR4.out.pos.setB false
    refine ⟨(((((hQ.setO hnr _).setO hnr _).setO hnr _).setO hnr _).setO hnr _).setO hnr _, fun k hk => ?_, ?_⟩
    · rcases HR4.out.own k hk with h | h
      · exact Or.inl (HOLD.out k h)
      · exact Or.inr (by omega)
    · have hO : Ot (RnF b vs tv) w w4 := HO2.out.trans' HR4.out.ot (fun j hj _ => HOLD.out j hj)
      repeat' (first | with_reducible exact hO | with_reducible refine Ot.setCell ?_ (Or.inr (Nat.le_refl _)) _ | refine Ot.setCell ?_ (Or.inl (Or.inl rfl)) _)
  | cons y L' =>
    have HS : Hid (fsendS s f x (y :: L') = { fl := updF s.fl f (y :: L'), cr := updF s.cr f (s.cr f - x.l), tn := s.tn, bg := s.bg }) := by show _ = _; rfl
    have hne : (((y :: L').length : Int) == 0) = false := by simp; omega
    go_wp2
    (try simp only [Exit.inBlock, Exit.then])
    refine bodyPost_ret (v := x.val) (ret_held1 rfl rfl (six_set hr2 _ _ _ _ _ _)) rfl ⟨rfl, updC (updL C (33 + f * 2) v1 (y :: L')) (17 + f) (.int .i64 (s.cr f - x.l)), updF vs f v1, tv, ?_⟩
    rw [HS.out]
    have hnr : ¬ RnF b (updF vs f v1) tv w.heap.size := by
      intro hk
      have := hlw _ hk; omega
    refine ⟨(((((HP2.out.setO hnr _).setO hnr _).setO hnr _).setO hnr _).setO hnr _).setO hnr _, fun k hk => Or.inl (HOLD.out k hk), ?_⟩
    have hO := HO2.out
    repeat' (first | with_reducible exact hO | with_reducible refine Ot.setCell ?_ (Or.inr (Nat.le_refl _)) _)
end Go.Proofs.YtfakjedolecdcaaGreatDoor
