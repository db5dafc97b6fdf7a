/-
  millraceref.Delayed: what pull does. Conditions: the queue lies in memory, few packets; times within bounds.
-/
import Derived.Test.YtejomfmbhifeaaaDoorRl1
import Derived.Test.YtejomfmbhifeaaaDoorRd4
namespace Go.Proofs.YtejomfmbhifeaaaDoor
open Go.RowKit Go.Extern.Stop Go.Stop Go.Extern

theorem qcells2 {w : World} {b : Nat} {P R T S : Int} {v av : Value} {s : DlS} {L : List Hd} (h : RAt w b 58 P R false (qmore T S av s) v L) : (w.cell? ⟨b, 3, none⟩ = some v ∧ w.cell? ⟨b, 4, none⟩ = some (.int .i64 T) ∧ w.cell? ⟨b, 5, none⟩ = some (.int .i64 S) ∧ w.cell? ⟨b, 6, none⟩ = some av ∧ w.cell? ⟨b, 7, none⟩ = some (.bool s.throws) ∧ w.cell? ⟨b, 8, none⟩ = some (.int .i64 s.count) ∧ w.cell? ⟨b, 9, none⟩ = some (.int .i64 s.next)) ∧
    w.frozen? ⟨b, 6, none⟩ = false ∧ w.frozen? ⟨b, 7, none⟩ = false ∧ w.frozen? ⟨b, 8, none⟩ = false ∧ w.frozen? ⟨b, 9, none⟩ = false := QAt.cells (s := { s with L := L }) h
theorem RAt.rest {w : World} {b : Nat} {T : TypeId} {P R : Int} {hd : Bool} {more more' : List Value} {v : Value} {L : List Hd} (h : RAt w b T P R hd more v L) (i : Nat) (u : Value) (hr : more' = more.set i u) : RAt (w.setCell ⟨b, i + 4, none⟩ u) b T P R hd more' v L := by
  subst hr
  refine ⟨?_, Seg.setCell (p := ⟨b, i + 4, none⟩) h.row h.ne _, h.ne⟩
  rw [heap_setCell_here h.blk u]
  simp
theorem RAt.ot' {S : Nat → Prop} {w w' : World} {b : Nat} {T : TypeId} {P R : Int} {hd : Bool} {more : List Value} {v : Value} {L : List Hd} (h : RAt w b T P R hd more v L) (ho : Ot S w w') (hb : ¬ S b) (hv : ∀ k, v.ownBlock = some k → ¬ S k) : RAt w' b T P R hd more v L := h.kept (ho.block b h.lt hb) (fun k hk => ho.block k (h.row.lt hk) (hv k hk))
theorem RAt.six {w : World} {b : Nat} {T : TypeId} {P R : Int} {hd : Bool} {more : List Value} {v : Value} {L : List Hd} (h : RAt w b T P R hd more v L) {r : Nat} (hr : r ≠ b) (hv : ∀ k, v.ownBlock = some k → k ≠ r) (a0 a1 a2 a3 a4 a5 : Value) :
    RAt ((((((w.setCell ⟨r, 0, none⟩ a0).setCell ⟨r, 1, none⟩ a1).setCell ⟨r, 2, none⟩ a2).setCell ⟨r, 3, none⟩ a3).setCell ⟨r, 4, none⟩ a4).setCell ⟨r, 5, none⟩ a5) b T P R hd more v L := by
  refine h.ot' (S := (· = r)) ?_ (fun e => hr e.symm) hv
  repeat' (first | with_reducible exact Ot.refl _ _ | with_reducible refine Ot.setCell ?_ (by simp) _)
theorem ret_pack2 {fn : Func} {p u u2 : Tmp} (h : fn.results = #[.cell p 99, .tmp u, .tmp u2]) {tmps : Array Value} {w : World} {r : Nat} {x : Hd} {t : TypeId} {fr : Nat × Nat} {v1 v2 : Value} (hp : tmps.getD p undef = .pointer (some ⟨r, 0, none⟩)) (hx : w.heap[r]? = some (.cells #[.int .i64 x.a, .int .i64 x.l, .int .i64 x.f, .int .i64 x.b, .int .i64 x.m, .int .i64 x.n] t fr)) (h1 : tmps.getD u undef = v1) (h2 : tmps.getD u2 undef = v2) :
    (results fn tmps).run Tryd.prog w = .ok (.tuple #[x.val, v1, v2]) w := by
  rw [results_cell_tmp2 h, hp, h1, h2]
  simp [asAddr, Result.andThen, load_pack hx]
/-- A Delayed, and the row that holds A. -/
structure QP (w : World) (b : Nat) (P R T S : Int) (v av : Value) (s : DlS) : Prop where
  pos : QAt w b P R T S v av s
  anone : s.late = false → av = .slice none 0 0
  asome : s.late = true → ∃ g, av = .slice (some ⟨g, 0, none⟩) 1 1 ∧ w.heap[g]? = some (.cells #[.int .i64 s.dl] 3 (0, 0))
  nb : av.ownBlock ≠ some b
  nv : ∀ k, av.ownBlock = some k → v.ownBlock ≠ some k
  low : ∀ k, av.ownBlock = some k → k < w.heap.size
set_option maxRecDepth 20000 in
set_option maxHeartbeats 600000 in
theorem rpull_a {b : Nat} {P R T S : Int} {v av : Value} {s : DlS} (now : Int) (w : World) (h : QP w b P R T S v av s) (hF : Fit s.L) (hn0 : 0 ≤ now) (hn1 : now ≤ 1000000) (ha : ∀ x ∈ s.L, 0 ≤ x.a ∧ x.a ≤ 1000000) (hc : s.L = [] ∨ (∃ x L, s.L = x :: L ∧ (now - x.a < T ∨ L = []))) :
    Calls Tryd.prog 97 #[.pointer (some ⟨b, 0, none⟩), .int .i64 now] w fun e w' => e = .returned (.tuple #[(pullD T S s now).2.1.val, .bool (pullD T S s now).2.2.1, .bool (pullD T S s now).2.2.2]) ∧ ∃ v' av', QP w' b P R T S v' av' (pullD T S s now).1 ∧ (∀ k, v'.ownBlock = some k → v.ownBlock = some k ∨ w.heap.size ≤ k) ∧ (∀ k, av'.ownBlock = some k → av.ownBlock = some k ∨ w.heap.size ≤ k) ∧ Ot (· = b) w w' := by
  have H : Hid (QP w b P R T S v av s) := h
  have hb := RAt.lt h.pos
  have hV := Hd.val_eq
  clear h
  have HF : Hid (Fit s.L) := hF
  rcases hc with hL | ⟨x, L', hL, hc⟩
  · have hp : pullD T S s now = ({ s with late := false }, hd0, false, false) := by simp [pullD, hL]
    rw [hp]
    have HT : Hid (s.L.tail = s.L) := by show _ = _; rw [hL]; rfl
    have hO : hdOr s.L = hd0 := by rw [hL]; rfl
    have hE : s.L.isEmpty = true := by rw [hL]; rfl
    clear hp hL ha hF
    go_enter Tryd.func97, Tryd.ntmps97
    go_wp2_with (go_at_call 86; refine (rfifo_take now _ (RAt.below H.out.pos ((Below.refl _ _).alloc (Nat.le_refl _) _)) HF.out).mono ?_; rintro e w1 ⟨rfl, v1, hp1⟩; have ho1 := hp1.ot; obtain ⟨hs1, hz⟩ := after_ot ho1 (by omega); obtain ⟨⟨z0, z1, z2, z3, z4, z5⟩, y0, y1, y2, y3, y4, y5⟩ := six hz; have hbs : b < w1.heap.size := Nat.lt_trans hb hs1; have hl1 := hp1.list; rw [HT.out] at hl1; obtain ⟨⟨c3, c4, c5, c6, c7, c8, c9⟩, f6, f7, f8, f9⟩ := qcells2 hl1; have HL1 : Hid (RAt w1 b 58 P R false (qmore T S av s) v1 s.L) := hl1; have HV1 : Hid (∀ k, v1.ownBlock = some k → k ≠ w.heap.size) := (fun k hk e => by { rcases hp1.own k hk with h | h; have := H.out.pos.row.lt h; omega; simp at h; omega }); have HK1 : Hid (∀ k, v1.ownBlock = some k → v.ownBlock = some k ∨ w.heap.size ≤ k) := (fun k hk => by { rcases hp1.own k hk with h | h; exact Or.inl h; exact Or.inr (by simp at h; omega) }); obtain ⟨xv, xcap, hv1, _⟩ := hl1.row.shape; subst hv1; clear hl1; have HP1 : Hid (∀ g, av.ownBlock = some g → w1.heap[g]? = w.heap[g]?) := (fun g hg => by { have hl := H.out.low g hg; rw [ho1.block g (by simp; omega) (fun e => H.out.nb (by rw [← e]; exact hg))]; exact Below.heap_alloc _ _ _ hl }))
    go_quiet (fail)
    go_wp2
    (try simp only [Exit.inBlock, Exit.then])
    refine bodyPost_ret (v := .tuple #[hd0.val, .bool false, .bool false]) ?_ rfl ⟨rfl, _, (.slice none 0 0), ⟨?_, ?_, ?_, ?_, ?_, ?_⟩, HK1.out, ?_, ?_⟩
    · exact ret_pack2 rfl rfl (six_set (heap_other (by omega) (heap_drew (six_set hz _ _ _ _ _ _))) _ _ _ _ _ _) rfl rfl
    · exact RAt.six (((HL1.out.six (by omega) HV1.out _ _ _ _ _ _).drewN _).rest 2 (.slice none 0 0) rfl) (by omega) HV1.out _ _ _ _ _ _
    · intro _; rfl
    · intro h; cases h
    · simp [Value.ownBlock]
    · intro k hk; simp [Value.ownBlock] at hk
    · intro k hk; simp [Value.ownBlock] at hk
    · intro k hk; simp [Value.ownBlock] at hk
    · have hO : Ot (· = b) w w1 := (Ot.of_below ((Below.refl _ _).alloc (Nat.le_refl _) _)).trans ho1
      repeat' (first | with_reducible exact hO | with_reducible refine Ot.alloc ?_ _ | with_reducible refine Ot.setCell ?_ (by simp) _ | with_reducible refine Ot.drewN ?_ _)
  have hx := ha x (by rw [hL]; simp)
  have HT : Hid (s.L.tail = L') := by show _ = _; rw [hL]; rfl
  have hO : hdOr s.L = x := by rw [hL]; rfl
  have hE : s.L.isEmpty = false := by rw [hL]; rfl
  have hw : IntKind.i64.wrap (now - x.a) = now - x.a := by rw [IntKind.wrap_i64]; omega
  have hp : pullD T S s now = ({ s with L := L', late := false }, x, true, false) := by simp [pullD, hL, hc]
  rw [hp]
  by_cases h1 : now - x.a < T
  · clear hp hL ha hF hc
    go_enter Tryd.func97, Tryd.ntmps97
    go_wp2_with (go_at_call 86; refine (rfifo_take now _ (RAt.below H.out.pos ((Below.refl _ _).alloc (Nat.le_refl _) _)) HF.out).mono ?_; rintro e w1 ⟨rfl, v1, hp1⟩; have ho1 := hp1.ot; obtain ⟨hs1, hz⟩ := after_ot ho1 (by omega); obtain ⟨⟨z0, z1, z2, z3, z4, z5⟩, y0, y1, y2, y3, y4, y5⟩ := six hz; have hbs : b < w1.heap.size := Nat.lt_trans hb hs1; have hl1 := hp1.list; rw [HT.out] at hl1; obtain ⟨⟨c3, c4, c5, c6, c7, c8, c9⟩, f6, f7, f8, f9⟩ := qcells2 hl1; have HL1 : Hid (RAt w1 b 58 P R false (qmore T S av s) v1 L') := hl1; have HV1 : Hid (∀ k, v1.ownBlock = some k → k ≠ w.heap.size) := (fun k hk e => by { rcases hp1.own k hk with h | h; have := H.out.pos.row.lt h; omega; simp at h; omega }); have HK1 : Hid (∀ k, v1.ownBlock = some k → v.ownBlock = some k ∨ w.heap.size ≤ k) := (fun k hk => by { rcases hp1.own k hk with h | h; exact Or.inl h; exact Or.inr (by simp at h; omega) }); obtain ⟨xv, xcap, hv1, _⟩ := hl1.row.shape; subst hv1; clear hl1; have HP1 : Hid (∀ g, av.ownBlock = some g → w1.heap[g]? = w.heap[g]?) := (fun g hg => by { have hl := H.out.low g hg; rw [ho1.block g (by simp; omega) (fun e => H.out.nb (by rw [← e]; exact hg))]; exact Below.heap_alloc _ _ _ hl }))
    go_quiet (fail)
    go_wp2
    (try simp only [Exit.inBlock, Exit.then])
    refine bodyPost_ret (v := .tuple #[x.val, .bool true, .bool false]) ?_ rfl ⟨rfl, _, (.slice none 0 0), ⟨?_, ?_, ?_, ?_, ?_, ?_⟩, HK1.out, ?_, ?_⟩
    · exact ret_pack2 rfl rfl (six_set (heap_other (by omega) (heap_drew (six_set hz _ _ _ _ _ _))) _ _ _ _ _ _) rfl rfl
    · exact RAt.six (((HL1.out.six (by omega) HV1.out _ _ _ _ _ _).drewN _).rest 2 (.slice none 0 0) rfl) (by omega) HV1.out _ _ _ _ _ _
    · intro _; rfl
    · intro h; cases h
    · simp [Value.ownBlock]
    · intro k hk; simp [Value.ownBlock] at hk
    · intro k hk; simp [Value.ownBlock] at hk
    · intro k hk; simp [Value.ownBlock] at hk
    · have hO : Ot (· = b) w w1 := (Ot.of_below ((Below.refl _ _).alloc (Nat.le_refl _) _)).trans ho1
      repeat' (first | with_reducible exact hO | with_reducible refine Ot.alloc ?_ _ | with_reducible refine Ot.setCell ?_ (by simp) _ | with_reducible refine Ot.drewN ?_ _)
  · have h1d : decide (now - x.a < T) = false := decide_eq_false h1
    have h2 : L' = [] := hc.resolve_left h1
    have hlen : ((L'.length : Int) == 0) = true := by rw [h2]; rfl
    clear hp hL ha hF hc h2
    go_enter Tryd.func97, Tryd.ntmps97
    go_wp2_with (go_at_call 86; refine (rfifo_take now _ (RAt.below H.out.pos ((Below.refl _ _).alloc (Nat.le_refl _) _)) HF.out).mono ?_; rintro e w1 ⟨rfl, v1, hp1⟩; have ho1 := hp1.ot; obtain ⟨hs1, hz⟩ := after_ot ho1 (by omega); obtain ⟨⟨z0, z1, z2, z3, z4, z5⟩, y0, y1, y2, y3, y4, y5⟩ := six hz; have hbs : b < w1.heap.size := Nat.lt_trans hb hs1; have hl1 := hp1.list; rw [HT.out] at hl1; obtain ⟨⟨c3, c4, c5, c6, c7, c8, c9⟩, f6, f7, f8, f9⟩ := qcells2 hl1; have HL1 : Hid (RAt w1 b 58 P R false (qmore T S av s) v1 L') := hl1; have HV1 : Hid (∀ k, v1.ownBlock = some k → k ≠ w.heap.size) := (fun k hk e => by { rcases hp1.own k hk with h | h; have := H.out.pos.row.lt h; omega; simp at h; omega }); have HK1 : Hid (∀ k, v1.ownBlock = some k → v.ownBlock = some k ∨ w.heap.size ≤ k) := (fun k hk => by { rcases hp1.own k hk with h | h; exact Or.inl h; exact Or.inr (by simp at h; omega) }); obtain ⟨xv, xcap, hv1, _⟩ := hl1.row.shape; subst hv1; clear hl1; have HP1 : Hid (∀ g, av.ownBlock = some g → w1.heap[g]? = w.heap[g]?) := (fun g hg => by { have hl := H.out.low g hg; rw [ho1.block g (by simp; omega) (fun e => H.out.nb (by rw [← e]; exact hg))]; exact Below.heap_alloc _ _ _ hl }))
    go_quiet (fail)
    go_wp2
    (try simp only [Exit.inBlock, Exit.then])
    refine bodyPost_ret (v := .tuple #[x.val, .bool true, .bool false]) ?_ rfl ⟨rfl, _, (.slice none 0 0), ⟨?_, ?_, ?_, ?_, ?_, ?_⟩, HK1.out, ?_, ?_⟩
    · exact ret_pack2 rfl rfl (six_set (heap_other (by omega) (heap_drew (six_set hz _ _ _ _ _ _))) _ _ _ _ _ _) rfl rfl
    · exact RAt.six (((HL1.out.six (by omega) HV1.out _ _ _ _ _ _).drewN _).rest 2 (.slice none 0 0) rfl) (by omega) HV1.out _ _ _ _ _ _
    · intro _; rfl
    · intro h; cases h
    · simp [Value.ownBlock]
    · intro k hk; simp [Value.ownBlock] at hk
    · intro k hk; simp [Value.ownBlock] at hk
    · intro k hk; simp [Value.ownBlock] at hk
    · have hO : Ot (· = b) w w1 := (Ot.of_below ((Below.refl _ _).alloc (Nat.le_refl _) _)).trans ho1
      repeat' (first | with_reducible exact hO | with_reducible refine Ot.alloc ?_ _ | with_reducible refine Ot.setCell ?_ (by simp) _ | with_reducible refine Ot.drewN ?_ _)
set_option maxRecDepth 20000 in
set_option maxHeartbeats 600000 in
theorem rpull_b {b : Nat} {P R T S : Int} {v av : Value} {s : DlS} (now : Int) (w : World) (h : QP w b P R T S v av s) (hF : Fit s.L) (hS : 0 ≤ S) (hS1 : S ≤ 1000000) (hn0 : 0 ≤ now) (hn1 : now ≤ 1000000) (ha : ∀ x ∈ s.L, 0 ≤ x.a ∧ x.a ≤ 1000000) {x : Hd} {L' : List Hd} (hL : s.L = x :: L') (h1 : ¬ now - x.a < T) (h2 : L' ≠ []) (hlate : s.late = false) :
    Calls Tryd.prog 97 #[.pointer (some ⟨b, 0, none⟩), .int .i64 now] w fun e w' => e = .returned (.tuple #[(pullD T S s now).2.1.val, .bool (pullD T S s now).2.2.1, .bool (pullD T S s now).2.2.2]) ∧ ∃ v' av', QP w' b P R T S v' av' (pullD T S s now).1 ∧ (∀ k, v'.ownBlock = some k → v.ownBlock = some k ∨ w.heap.size ≤ k) ∧ (∀ k, av'.ownBlock = some k → av.ownBlock = some k ∨ w.heap.size ≤ k) ∧ Ot (· = b) w w' := by
  have H : Hid (QP w b P R T S v av s) := h
  have hb := RAt.lt h.pos
  have hV := Hd.val_eq
  have hnS := nilSomeI
  have hnN := nilNoneI
  have HF : Hid (Fit s.L) := hF
  have hx := ha x (by rw [hL]; simp)
  have HT : Hid (s.L.tail = L') := by show _ = _; rw [hL]; rfl
  have hO : hdOr s.L = x := by rw [hL]; rfl
  have hE : s.L.isEmpty = false := by rw [hL]; rfl
  have hw : IntKind.i64.wrap (now - x.a) = now - x.a := by rw [IntKind.wrap_i64]; omega
  have h1d : decide (now - x.a < T) = false := decide_eq_false h1
  have hlen : ((L'.length : Int) == 0) = false := by
    cases L' with
    | nil => exact absurd rfl h2
    | cons y l => simp; omega
  have hp : pullD T S s now = ({ s with L := L', late := true, dl := now + S }, x, true, false) := by simp [pullD, hL, h1, h2, hlate]
  rw [hp]
  obtain rfl := h.anone hlate
  clear hp hL ha hF h h1 h2 hlate
  go_enter Tryd.func97, Tryd.ntmps97
  go_wp2_with (go_at_call 86; refine (rfifo_take now _ (RAt.below H.out.pos ((Below.refl _ _).alloc (Nat.le_refl _) _)) HF.out).mono ?_; rintro e w1 ⟨rfl, v1, hp1⟩; have ho1 := hp1.ot; obtain ⟨hs1, hz⟩ := after_ot ho1 (by omega); obtain ⟨⟨z0, z1, z2, z3, z4, z5⟩, y0, y1, y2, y3, y4, y5⟩ := six hz; have hbs : b < w1.heap.size := Nat.lt_trans hb hs1; have hl1 := hp1.list; rw [HT.out] at hl1; obtain ⟨⟨c3, c4, c5, c6, c7, c8, c9⟩, f6, f7, f8, f9⟩ := qcells2 hl1; have HL1 : Hid (RAt w1 b 58 P R false (qmore T S (.slice none 0 0) s) v1 L') := hl1; have HV1 : Hid (∀ k, v1.ownBlock = some k → k ≠ w.heap.size) := (fun k hk e => by { rcases hp1.own k hk with h | h; have := H.out.pos.row.lt h; omega; simp at h; omega }); have HK1 : Hid (∀ k, v1.ownBlock = some k → v.ownBlock = some k ∨ w.heap.size ≤ k) := (fun k hk => by { rcases hp1.own k hk with h | h; exact Or.inl h; exact Or.inr (by simp at h; omega) }); obtain ⟨xv, xcap, hv1, _⟩ := hl1.row.shape; subst hv1; clear hl1; have HP1 : Hid (∀ g, (.slice none 0 0 : Value).ownBlock = some g → w1.heap[g]? = w.heap[g]?) := (fun g hg => by { have hl := H.out.low g hg; rw [ho1.block g (by simp; omega) (fun e => H.out.nb (by rw [← e]; exact hg))]; exact Below.heap_alloc _ _ _ hl }))
  go_quiet (fail)
  go_wp2
  (try simp only [Exit.inBlock, Exit.then])
  refine bodyPost_ret (v := .tuple #[x.val, .bool true, .bool false]) ?_ rfl ⟨rfl, _, .slice (some ⟨w1.heap.size, 0, none⟩) 1 1, ⟨?_, ?_, ?_, ?_, ?_, ?_⟩, HK1.out, ?_, ?_⟩
  · exact ret_pack2 rfl rfl ((Below.heap_alloc _ _ _ (by simpa using hs1)).trans (six_set (heap_other (by omega) (heap_drew (six_set hz _ _ _ _ _ _))) _ _ _ _ _ _)) rfl rfl
  · exact RAt.below (RAt.six (((HL1.out.six (by omega) HV1.out _ _ _ _ _ _).drewN _).rest 2 (.slice (some ⟨w1.heap.size, 0, none⟩) 1 1) rfl) (by omega) HV1.out _ _ _ _ _ _) (below_alloc_ (Below.refl _ _) _)
  · intro h; cases h
  · intro _; exact ⟨w1.heap.size, rfl, new_block_ (by simp)⟩
  · simp only [Value.ownBlock, ne_eq, Option.some.injEq]; omega
  · intro k hk e
    simp only [Value.ownBlock, Option.some.injEq] at hk
    have := HL1.out.row.lt e
    omega
  · intro k hk
    simp only [Value.ownBlock, Option.some.injEq] at hk
    simp
    omega
  · intro k hk
    simp only [Value.ownBlock, Option.some.injEq] at hk
    omega
  · have hO : Ot (· = b) w w1 := (Ot.of_below ((Below.refl _ _).alloc (Nat.le_refl _) _)).trans ho1
    repeat' (first | with_reducible exact hO | with_reducible refine Ot.alloc ?_ _ | with_reducible refine Ot.setCell ?_ (by simp) _ | with_reducible refine Ot.drewN ?_ _)
set_option maxRecDepth 20000 in
set_option maxHeartbeats 600000 in
theorem rpull_c {b : Nat} {P R T S : Int} {v av : Value} {s : DlS} (now : Int) (w : World) (h : QP w b P R T S v av s) (hF : Fit s.L) (hn0 : 0 ≤ now) (hn1 : now ≤ 1000000) (ha : ∀ x ∈ s.L, 0 ≤ x.a ∧ x.a ≤ 1000000) {x : Hd} {L' : List Hd} (hL : s.L = x :: L') (h1 : ¬ now - x.a < T) (h2 : L' ≠ []) (hlate : s.late = true) :
    Calls Tryd.prog 97 #[.pointer (some ⟨b, 0, none⟩), .int .i64 now] w fun e w' => e = .returned (.tuple #[(pullD T S s now).2.1.val, .bool (pullD T S s now).2.2.1, .bool (pullD T S s now).2.2.2]) ∧ ∃ v' av', QP w' b P R T S v' av' (pullD T S s now).1 ∧ (∀ k, v'.ownBlock = some k → v.ownBlock = some k ∨ w.heap.size ≤ k) ∧ (∀ k, av'.ownBlock = some k → av.ownBlock = some k ∨ w.heap.size ≤ k) ∧ Ot (· = b) w w' := by
  have H : Hid (QP w b P R T S v av s) := h
  have hb := RAt.lt h.pos
  have hV := Hd.val_eq
  have hnS := nilSomeI
  have hnN := nilNoneI
  have HF : Hid (Fit s.L) := hF
  have hx := ha x (by rw [hL]; simp)
  have HT : Hid (s.L.tail = L') := by show _ = _; rw [hL]; rfl
  have hO : hdOr s.L = x := by rw [hL]; rfl
  have hE : s.L.isEmpty = false := by rw [hL]; rfl
  have hw : IntKind.i64.wrap (now - x.a) = now - x.a := by rw [IntKind.wrap_i64]; omega
  have h1d : decide (now - x.a < T) = false := decide_eq_false h1
  have hlen : ((L'.length : Int) == 0) = false := by
    cases L' with
    | nil => exact absurd rfl h2
    | cons y l => simp; omega
  have hp : pullD T S s now = ({ s with L := L' }, x, true, decide (s.dl ≤ now)) := by simp [pullD, hL, h1, h2, hlate]
  rw [hp]
  obtain ⟨g, rfl, hg⟩ := h.asome hlate
  have HG : Hid (w.heap[g]? = some (.cells #[.int .i64 s.dl] 3 (0, 0))) := hg
  have HLT : Hid (s.late = true) := hlate
  have hgl : g < w.heap.size := h.low g rfl
  have hgb : g ≠ b := fun e => h.nb (by rw [e]; rfl)
  clear hp hL ha hF h h1 h2 hlate hg
  go_enter Tryd.func97, Tryd.ntmps97
  go_wp2_with (go_at_call 86; refine (rfifo_take now _ (RAt.below H.out.pos ((Below.refl _ _).alloc (Nat.le_refl _) _)) HF.out).mono ?_; rintro e w1 ⟨rfl, v1, hp1⟩; have ho1 := hp1.ot; obtain ⟨hs1, hz⟩ := after_ot ho1 (by omega); obtain ⟨⟨z0, z1, z2, z3, z4, z5⟩, y0, y1, y2, y3, y4, y5⟩ := six hz; have hbs : b < w1.heap.size := Nat.lt_trans hb hs1; have hl1 := hp1.list; rw [HT.out] at hl1; obtain ⟨⟨c3, c4, c5, c6, c7, c8, c9⟩, f6, f7, f8, f9⟩ := qcells2 hl1; have HL1 : Hid (RAt w1 b 58 P R false (qmore T S (.slice (some ⟨g, 0, none⟩) 1 1) s) v1 L') := hl1; have HV1 : Hid (∀ k, v1.ownBlock = some k → k ≠ w.heap.size) := (fun k hk e => by { rcases hp1.own k hk with h | h; have := H.out.pos.row.lt h; omega; simp at h; omega }); have HK1 : Hid (∀ k, v1.ownBlock = some k → v.ownBlock = some k ∨ w.heap.size ≤ k) := (fun k hk => by { rcases hp1.own k hk with h | h; exact Or.inl h; exact Or.inr (by simp at h; omega) }); obtain ⟨xv, xcap, hv1, _⟩ := hl1.row.shape; subst hv1; clear hl1; have HP1 : Hid (∀ g', (Value.slice (some ⟨g, 0, none⟩) 1 1).ownBlock = some g' → w1.heap[g']? = w.heap[g']?) := (fun g' hg => by { have hl := H.out.low g' hg; rw [ho1.block g' (by simp; omega) (fun e => H.out.nb (by rw [← e]; exact hg))]; exact Below.heap_alloc _ _ _ hl }); have hg1 : w1.heap[g]? = some (.cells #[.int .i64 s.dl] 3 (0, 0)) := (HP1.out g rfl).trans HG.out; have cg : w1.cell? ⟨g, 0, none⟩ = some (.int .i64 s.dl) := (by simp [World.cell?, hg1]))
  go_quiet (fail)
  go_wp2
  (try simp only [Exit.inBlock, Exit.then])
  refine bodyPost_ret (v := .tuple #[x.val, .bool true, .bool (decide (s.dl ≤ now))]) ?_ rfl ⟨rfl, _, .slice (some ⟨g, 0, none⟩) 1 1, ⟨?_, ?_, ?_, ?_, ?_, ?_⟩, HK1.out, fun k hk => Or.inl hk, ?_⟩
  · exact ret_pack2 rfl rfl (six_set (heap_drew (six_set hz _ _ _ _ _ _)) _ _ _ _ _ _) rfl rfl
  · exact RAt.six ((HL1.out.six (by omega) HV1.out _ _ _ _ _ _).drewN _) (by omega) HV1.out _ _ _ _ _ _
  · intro h
    have h' : s.late = false := h
    rw [HLT.out] at h'
    cases h'
  · intro _; exact ⟨g, rfl, heap_six (by omega) (heap_drew (heap_six (by omega) hg1))⟩
  · simpa [Value.ownBlock] using hgb
  · intro k hk e
    simp only [Value.ownBlock, Option.some.injEq] at hk
    subst hk
    rcases HK1.out _ e with h | h
    · exact H.out.nv _ rfl h
    · omega
  · intro k hk
    simp only [Value.ownBlock, Option.some.injEq] at hk
    simp
    omega
  · have hO : Ot (· = b) w w1 := (Ot.of_below ((Below.refl _ _).alloc (Nat.le_refl _) _)).trans ho1
    repeat' (first | with_reducible exact hO | with_reducible refine Ot.alloc ?_ _ | with_reducible refine Ot.setCell ?_ (by simp) _ | with_reducible refine Ot.drewN ?_ _)
theorem rpull_any {b : Nat} {P R T S : Int} {v av : Value} {s : DlS} (now : Int) (w : World) (h : QP w b P R T S v av s) (hF : Fit s.L) (hS : 0 ≤ S) (hS1 : S ≤ 1000000) (hn0 : 0 ≤ now) (hn1 : now ≤ 1000000) (ha : ∀ x ∈ s.L, 0 ≤ x.a ∧ x.a ≤ 1000000) :
    Calls Tryd.prog 97 #[.pointer (some ⟨b, 0, none⟩), .int .i64 now] w fun e w' => e = .returned (.tuple #[(pullD T S s now).2.1.val, .bool (pullD T S s now).2.2.1, .bool (pullD T S s now).2.2.2]) ∧ ∃ v' av', QP w' b P R T S v' av' (pullD T S s now).1 ∧ (∀ k, v'.ownBlock = some k → v.ownBlock = some k ∨ w.heap.size ≤ k) ∧ (∀ k, av'.ownBlock = some k → av.ownBlock = some k ∨ w.heap.size ≤ k) ∧ Ot (· = b) w w' := by
  cases hL : s.L with
  | nil => exact rpull_a now w h hF hn0 hn1 ha (Or.inl hL)
  | cons x L' =>
    by_cases h1 : now - x.a < T
    · exact rpull_a now w h hF hn0 hn1 ha (Or.inr ⟨x, L', hL, Or.inl h1⟩)
    by_cases h2 : L' = []
    · exact rpull_a now w h hF hn0 hn1 ha (Or.inr ⟨x, L', hL, Or.inr h2⟩)
    cases hl : s.late with
    | false => exact rpull_b now w h hF hS hS1 hn0 hn1 ha hL h1 h2 hl
    | true => exact rpull_c now w h hF hn0 hn1 ha hL h1 h2 hl
end Go.Proofs.YtejomfmbhifeaaaDoor
