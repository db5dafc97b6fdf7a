/-
  package htb: Take. Conditions: the tree lies in memory as its state tells; times up to 1000000000.
-/
import Derived.Test.YtpgdocmpbeabpaaDoorZt9
namespace Go.Proofs.YtpgdocmpbeabpaaDoor
open Go.RowKit Go.Extern.Stop Go.Stop Go.Extern

/-- A class sent last. -/
def sentN (s : HtS) (i : Nat) (v : Int) : HtS := { s with nd := updN s.nd i { s.nd i with sent := v } }
theorem updV_id (vs : Nat → Value) (i : Nat) : updV vs i (vs i) = vs := by
  funext j
  unfold updV
  split
  · subst j; rfl
  · rfl
theorem nodeC_sent (K : HtK) (x : HNd) (i : Nat) (v : Value) (u : Int) : ∀ j, j < 15 → nodeC K { x with sent := u } i v j = updC (nodeC K x i v) 14 (.int .i64 u) j := by
  intro j hj
  have : j = 0 ∨ j = 1 ∨ j = 2 ∨ j = 3 ∨ j = 4 ∨ j = 5 ∨ j = 6 ∨ j = 7 ∨ j = 8 ∨ j = 9 ∨ j = 10 ∨ j = 11 ∨ j = 12 ∨ j = 13 ∨ j = 14 := by omega
  rcases this with rfl | rfl | rfl | rfl | rfl | rfl | rfl | rfl | rfl | rfl | rfl | rfl | rfl | rfl | rfl <;> rfl
theorem HtAt.sentSet {K : HtK} {w : World} {s : HtS} {vs : Nat → Value} {ow : Nat → Nat × Nat} (h : HtAt K w s vs ow) {i : Nat} (hi : i < K.N) (u : Int) : ∃ ow', HtAt K (w.setCell ⟨K.nb i, 14, none⟩ (.int .i64 u)) (sentN s i u) vs ow' := by
  have hn := h.node i hi
  have hb : Blk (w.setCell ⟨K.nb i, 14, none⟩ (.int .i64 u)) (K.nb i) 15 94 (nodeC K { s.nd i with sent := u } i (vs i)) := (hn.blk.set 14 (.int .i64 u)).cong (nodeC_sent K (s.nd i) i (vs i) u)
  have hlo : LO (w.setCell ⟨K.nb i, 14, none⟩ (.int .i64 u)) (K.nb i) 15 94 (nodeC K { s.nd i with sent := u } i (vs i)) 12 (vs i) (s.nd i).L :=
    ⟨hb, hn.lt, rfl, rfl, hn.row.kept (fun k hk => Below.heap_setCell _ _ _ _ (fun e => hn.ne (by rw [hk, e]))), hn.ne⟩
  obtain ⟨ow', h1, _⟩ := h.nodeSet hi (x := { s.nd i with sent := u }) (v' := vs i) rfl rfl rfl rfl hlo (Ot.setCell (p := ⟨K.nb i, 14, none⟩) (Ot.refl _ _) (Or.inl (Or.inl rfl)) _) (fun k hk => Or.inl hk)
  rw [updV_id] at h1
  exact ⟨ow', h1⟩
theorem HtI.other {K : HtK} {t : Int} {n : Nat} {s s' : HtS} (h : HtI K t n s) (htm : s'.tm = s.tm) (hnd : ∀ j, (s'.nd j).rl = (s.nd j).rl ∧ (s'.nd j).ra = (s.nd j).ra ∧ (s'.nd j).cl = (s.nd j).cl ∧ (s'.nd j).ca = (s.nd j).ca ∧ (s'.nd j).L = (s.nd j).L) : HtI K t n s' := by
  refine ⟨by rw [htm]; exact h.tm, by rw [htm]; exact h.t0, fun j hj => ?_, fun j hj => ?_, fun j hj => ?_, fun j hj => ?_⟩
  · rw [(hnd j).1, (hnd j).2.1, htm]; exact h.rate j hj
  · rw [(hnd j).2.2.1, (hnd j).2.2.2.1, htm]; exact h.ceil j hj
  · rw [(hnd j).2.2.2.2]; exact h.wait j hj
  · rw [(hnd j).2.2.2.2]; exact h.inner j hj
theorem sentN_nd (s : HtS) (i : Nat) (v : Int) (j : Nat) : ((sentN s i v).nd j).rl = (s.nd j).rl ∧ ((sentN s i v).nd j).ra = (s.nd j).ra ∧ ((sentN s i v).nd j).cl = (s.nd j).cl ∧ ((sentN s i v).nd j).ca = (s.nd j).ca ∧ ((sentN s i v).nd j).L = (s.nd j).L := by
  have e : (sentN s i v).nd j = if j = i then { s.nd i with sent := v } else s.nd j := rfl
  rw [e]
  split
  · subst j; exact ⟨rfl, rfl, rfl, rfl, rfl⟩
  · exact ⟨rfl, rfl, rfl, rfl, rfl⟩
/-- What Take leaves and tells. -/
def takeH (K : HtK) (s : HtS) (now : Int) : HtS × List Hd × Hd × Bool := match bestM K (s.at now) now K.N with
  | none => (s.at now, [], hd0, false)
  | some o => (sendM K now (sentN { s.at now with gone := IntKind.i64.wrap (s.gone + 1) } o.leaf (IntKind.i64.wrap (s.gone + 1))) o, [], hdOr (s.nd o.leaf).L, true)
set_option maxRecDepth 20000 in
set_option maxHeartbeats 4000000 in
theorem take_ht {K : HtK} {s : HtS} {vs : Nat → Value} {ow : Nat → Nat × Nat} {t : Int} {n : Nat} (hK : HtKOk K) (now : Int) (w : World) (h : HtAt K w s vs ow) (hI : HtI K t n s) (hnn : n ≤ 1001) (ht : s.tm ≤ now) (h2 : now ≤ 1000000000) :
    Calls Tryd.prog 16 #[.pointer (some ⟨K.tb, 0, none⟩), .int .i64 now] w fun e w' => e = .returned (.tuple #[(takeH K s now).2.2.1.val, .slice none 0 0, .bool (takeH K s now).2.2.2]) ∧ ∃ vs' ow', Hid (HtAt K w' (takeH K s now).1 vs' ow') ∧ Hid (∀ k, HtF K vs' k → HtF K vs k ∨ w.heap.size ≤ k) ∧ Hid (Ot (HtF K vs) w w') := by
  have HK : Hid (HtKOk K) := hK
  have HA : Hid (HtAt K w (s.at now) vs ow) := h.later ht
  have HI : Hid (HtI K now n (s.at now)) := hI.at ht
  have HBE : Hid (∀ W, HtAt K W (s.at now) vs ow → Calls Tryd.prog 32 #[.pointer (some ⟨K.tb, 0, none⟩), .int .i64 now] W fun e w' => e = .returned (.tuple #[ofV K (bestM K (s.at now) now K.N), .bool (bestM K (s.at now) now K.N).isSome]) ∧ Hid (HtAt K w' (s.at now) vs ow) ∧ Hid (Ot (HtF K vs) W w')) := fun W hW => best_ht hK now W hW HI.out rfl h2
  have HLW : Hid (∀ k, HtF K vs k → k < w.heap.size) := h.low
  have hnow := h2
  cases hbm : bestM K (s.at now) now K.N with
  | none =>
    have hT : takeH K s now = (s.at now, [], hd0, false) := by unfold takeH; rw [hbm]
    rw [hT]
    rw [hbm] at HBE
    have HB0 : Hid ((w.alloc (.cells #[.int .i64 0, .int .i64 0, .int .i64 0, .int .i64 0, .int .i64 0, .int .i64 0] 60)).heap[w.heap.size]? = some (.cells #[.int .i64 0, .int .i64 0, .int .i64 0, .int .i64 0, .int .i64 0, .int .i64 0] 60 (0, 0))) := new_block _ _
    have HC := HBE.out (w.alloc (.cells #[.int .i64 0, .int .i64 0, .int .i64 0, .int .i64 0, .int .i64 0, .int .i64 0] 60)) (HA.out.below (below_alloc_ (Below.refl _ _) _))
    have HO0 : Hid (Ot (HtF K vs) w (w.alloc (.cells #[.int .i64 0, .int .i64 0, .int .i64 0, .int .i64 0, .int .i64 0, .int .i64 0] 60))) := (Ot.refl _ _).alloc _
    have hs0 : (w.alloc (.cells #[.int .i64 0, .int .i64 0, .int .i64 0, .int .i64 0, .int .i64 0, .int .i64 0] 60)).heap.size = w.heap.size + 1 := by simp
    clear hK h hI hnn ht h2 hbm hT HA HBE
    go_enter Tryd.func16, Tryd.ntmps16
    go_wp2_with fail
    generalize w.alloc (.cells #[.int .i64 0, .int .i64 0, .int .i64 0, .int .i64 0, .int .i64 0, .int .i64 0] 60) = w0 at *
    refine HC.mono ?_
    rintro e w1 ⟨rfl, HA1, HO1⟩
    have hb1 : w1.heap[w.heap.size]? = some (.cells #[.int .i64 0, .int .i64 0, .int .i64 0, .int .i64 0, .int .i64 0, .int .i64 0] 60 (0, 0)) := (HO1.out.block _ (lt_of_block HB0.out) (fun hk => by have := HLW.out _ hk; omega)).trans HB0.out
    have hb2 : (w1.alloc (.cells #[.pointer none, .pointer none, .int .i64 0] 98)).heap[w.heap.size]? = some (.cells #[.int .i64 0, .int .i64 0, .int .i64 0, .int .i64 0, .int .i64 0, .int .i64 0] 60 (0, 0)) := (Below.heap_alloc _ _ _ (lt_of_block hb1)).trans hb1
    have HB2 : Hid ((w1.alloc (.cells #[.pointer none, .pointer none, .int .i64 0] 98)).heap[w.heap.size]? = some (.cells #[.int .i64 0, .int .i64 0, .int .i64 0, .int .i64 0, .int .i64 0, .int .i64 0] 60 (0, 0))) := hb2
    have HA2 : Hid (HtAt K (w1.alloc (.cells #[.pointer none, .pointer none, .int .i64 0] 98)) (s.at now) vs ow) := HA1.out.below (below_alloc_ (Below.refl _ _) _)
    have HO2 : Hid (Ot (HtF K vs) w (w1.alloc (.cells #[.pointer none, .pointer none, .int .i64 0] 98))) := (HO0.out.trans HO1.out).alloc _
    obtain ⟨⟨e0, e1, e2, e3, e4, e5⟩, g0, g1, g2, g3, g4, g5⟩ := six hb2
    have e6 := lt_of_block hb2
    clear hb1 hb2 HC HB0 HO0 HA1 HO1 hs0
    unfold ofV
    go_wp2
    (try simp only [Exit.inBlock, Exit.then])
    have hz := six_set HB2.out (.int .i64 0) (.int .i64 0) (.int .i64 0) (.int .i64 0) (.int .i64 0) (.int .i64 0)
    have hot : Ot (fun k => k = w.heap.size) (w1.alloc (.cells #[.pointer none, .pointer none, .int .i64 0] 98)) (((((((w1.alloc (.cells #[.pointer none, .pointer none, .int .i64 0] 98)).setCell ⟨w.heap.size, 0, none⟩ (.int .i64 0)).setCell ⟨w.heap.size, 1, none⟩ (.int .i64 0)).setCell ⟨w.heap.size, 2, none⟩ (.int .i64 0)).setCell ⟨w.heap.size, 3, none⟩ (.int .i64 0)).setCell ⟨w.heap.size, 4, none⟩ (.int .i64 0)).setCell ⟨w.heap.size, 5, none⟩ (.int .i64 0)) := by
      repeat' (first | with_reducible exact Ot.refl _ _ | with_reducible refine Ot.setCell ?_ (by simp) _)
    refine bodyPost_ret (v := .tuple #[hd0.val, .slice none 0 0, .bool false]) ?_ rfl ⟨rfl, vs, ow, HA2.out.kept (fun k hk => hot.block k (HA2.out.low k hk) (fun e => by have := HLW.out k hk; omega)), fun k hk => Or.inl hk, HO2.out.trans' hot (fun k hk hlt => absurd hk (by omega))⟩
    rw [results_cell_tmp2 rfl]
    simp [asAddr, Result.andThen, load_held (x := hd0) hz]
  | some o =>
    obtain ⟨hol, hof⟩ := bestM_off hbm
    obtain ⟨hm0, x, r, hLx, _⟩ := offM_lend hK hol hof
    have hLx' : (s.nd o.leaf).L = x :: r := hLx
    obtain ⟨gv, hgv⟩ : ∃ gv, IntKind.i64.wrap (s.gone + 1) = gv := ⟨_, rfl⟩
    have hT : takeH K s now = (sendM K now (sentN { s.at now with gone := gv } o.leaf gv) o, [], x, true) := by
      unfold takeH
      rw [hbm]
      simp only
      rw [hLx', hgv]
      rfl
    rw [hT]
    rw [hbm] at HBE
    obtain ⟨s4, hs4⟩ : ∃ s4, sentN { s.at now with gone := gv } o.leaf gv = s4 := ⟨_, rfl⟩
    have hnd4 : ∀ j, (s4.nd j).rl = (s.nd j).rl ∧ (s4.nd j).ra = (s.nd j).ra ∧ (s4.nd j).cl = (s.nd j).cl ∧ (s4.nd j).ca = (s.nd j).ca ∧ (s4.nd j).L = (s.nd j).L := fun j => by
      rw [← hs4]
      exact sentN_nd { s.at now with gone := gv } o.leaf gv j
    have htm4 : s4.tm = now := by rw [← hs4]; rfl
    have HI4 : Hid (HtI K now n s4) := HI.out.other (s' := s4) htm4 hnd4
    have HSD : Hid (∀ W ow', HtAt K W s4 vs ow' → Calls Tryd.prog 33 #[.agg #[.pointer (some ⟨K.nb o.leaf, 0, none⟩), .pointer (some ⟨K.nb o.lend, 0, none⟩), .int .i64 o.steps], .int .i64 now] W fun e w' => e = .returned (.agg #[.int .i64 x.a, .int .i64 x.l, .int .i64 x.f, .int .i64 x.b, .int .i64 x.m, .int .i64 x.n]) ∧ ∃ vs' ow', Hid (HtAt K w' (sendM K now s4 o) vs' ow') ∧ Hid (∀ k, HtF K vs' k → HtF K vs k ∨ W.heap.size ≤ k) ∧ Hid (Ot (HtF K vs) W w')) := fun W ow' hW => send_ht (x := x) (r := r) hK now o hol hm0 (by rw [(hnd4 o.leaf).2.2.2.2]; exact hLx') W hW HI4.out hnn htm4 h2
    have HS4 : Hid (sentN { s.at now with gone := gv } o.leaf gv = s4) := hs4
    have HOL : Hid (o.leaf < K.N) := hol
    have HB0 : Hid ((w.alloc (.cells #[.int .i64 0, .int .i64 0, .int .i64 0, .int .i64 0, .int .i64 0, .int .i64 0] 60)).heap[w.heap.size]? = some (.cells #[.int .i64 0, .int .i64 0, .int .i64 0, .int .i64 0, .int .i64 0, .int .i64 0] 60 (0, 0))) := new_block _ _
    have HC := HBE.out (w.alloc (.cells #[.int .i64 0, .int .i64 0, .int .i64 0, .int .i64 0, .int .i64 0, .int .i64 0] 60)) (HA.out.below (below_alloc_ (Below.refl _ _) _))
    have HO0 : Hid (Ot (HtF K vs) w (w.alloc (.cells #[.int .i64 0, .int .i64 0, .int .i64 0, .int .i64 0, .int .i64 0, .int .i64 0] 60))) := (Ot.refl _ _).alloc _
    rw [hs4]
    clear hK h hI hnn ht h2 hbm hT HA HBE hof hm0 hLx hLx' hs4 hnd4 htm4 HI4 hol HI
    go_enter Tryd.func16, Tryd.ntmps16
    go_wp2_with fail
    generalize w.alloc (.cells #[.int .i64 0, .int .i64 0, .int .i64 0, .int .i64 0, .int .i64 0, .int .i64 0] 60) = w0 at *
    refine HC.mono ?_
    rintro e w1 ⟨rfl, HA1, HO1⟩
    have hb1 : w1.heap[w.heap.size]? = some (.cells #[.int .i64 0, .int .i64 0, .int .i64 0, .int .i64 0, .int .i64 0, .int .i64 0] 60 (0, 0)) := (HO1.out.block _ (lt_of_block HB0.out) (fun hk => by have := HLW.out _ hk; omega)).trans HB0.out
    have HB2 : Hid ((w1.alloc (.cells #[.pointer (some ⟨K.nb o.leaf, 0, none⟩), .pointer (some ⟨K.nb o.lend, 0, none⟩), .int .i64 o.steps] 98)).heap[w.heap.size]? = some (.cells #[.int .i64 0, .int .i64 0, .int .i64 0, .int .i64 0, .int .i64 0, .int .i64 0] 60 (0, 0))) := (Below.heap_alloc _ _ _ (lt_of_block hb1)).trans hb1
    have HB7 : Hid ((w1.alloc (.cells #[.pointer (some ⟨K.nb o.leaf, 0, none⟩), .pointer (some ⟨K.nb o.lend, 0, none⟩), .int .i64 o.steps] 98)).heap[w1.heap.size]? = some (.cells #[.pointer (some ⟨K.nb o.leaf, 0, none⟩), .pointer (some ⟨K.nb o.lend, 0, none⟩), .int .i64 o.steps] 98 (0, 0))) := new_block _ _
    have HA2 : Hid (HtAt K (w1.alloc (.cells #[.pointer (some ⟨K.nb o.leaf, 0, none⟩), .pointer (some ⟨K.nb o.lend, 0, none⟩), .int .i64 o.steps] 98)) (s.at now) vs ow) := HA1.out.below (below_alloc_ (Below.refl _ _) _)
    have HO2 : Hid (Ot (HtF K vs) w (w1.alloc (.cells #[.pointer (some ⟨K.nb o.leaf, 0, none⟩), .pointer (some ⟨K.nb o.lend, 0, none⟩), .int .i64 o.steps] 98))) := (HO0.out.trans HO1.out).alloc _
    have hrt := HA2.out.root
    have c2 : (w1.alloc (.cells #[.pointer (some ⟨K.nb o.leaf, 0, none⟩), .pointer (some ⟨K.nb o.lend, 0, none⟩), .int .i64 o.steps] 98)).cell? ⟨K.tb, 2, none⟩ = some (.int .i64 s.gone) := by simp only [World.cell?]; rw [hrt]; rfl
    have f2 : (w1.alloc (.cells #[.pointer (some ⟨K.nb o.leaf, 0, none⟩), .pointer (some ⟨K.nb o.lend, 0, none⟩), .int .i64 o.steps] 98)).frozen? ⟨K.tb, 2, none⟩ = false := by simp only [World.frozen?]; rw [hrt]; rfl
    have l2 := lt_of_block hrt
    have hs1 : w.heap.size < w1.heap.size := lt_of_block hb1
    clear hb1 HC HB0 HO0 HA1 HO1 hrt
    unfold ofV
    go_wp2_with fail
    have hta : K.tb < w.heap.size := HLW.out _ (Or.inl rfl)
    have HA3 : Hid (HtAt K ((w1.alloc (.cells #[.pointer (some ⟨K.nb o.leaf, 0, none⟩), .pointer (some ⟨K.nb o.lend, 0, none⟩), .int .i64 o.steps] 98)).setCell ⟨K.tb, 2, none⟩ (.int .i64 gv)) { s.at now with gone := gv } vs ow) := HA2.out.goneSet gv
    have HB3 : Hid (((w1.alloc (.cells #[.pointer (some ⟨K.nb o.leaf, 0, none⟩), .pointer (some ⟨K.nb o.lend, 0, none⟩), .int .i64 o.steps] 98)).setCell ⟨K.tb, 2, none⟩ (.int .i64 gv)).heap[w.heap.size]? = some (.cells #[.int .i64 0, .int .i64 0, .int .i64 0, .int .i64 0, .int .i64 0, .int .i64 0] 60 (0, 0))) := (Below.heap_setCell _ _ _ _ (by show w.heap.size ≠ K.tb; omega)).trans HB2.out
    have HB73 : Hid (((w1.alloc (.cells #[.pointer (some ⟨K.nb o.leaf, 0, none⟩), .pointer (some ⟨K.nb o.lend, 0, none⟩), .int .i64 o.steps] 98)).setCell ⟨K.tb, 2, none⟩ (.int .i64 gv)).heap[w1.heap.size]? = some (.cells #[.pointer (some ⟨K.nb o.leaf, 0, none⟩), .pointer (some ⟨K.nb o.lend, 0, none⟩), .int .i64 o.steps] 98 (0, 0))) := (Below.heap_setCell _ _ _ _ (by show w1.heap.size ≠ K.tb; omega)).trans HB7.out
    have HO3 : Hid (Ot (HtF K vs) w ((w1.alloc (.cells #[.pointer (some ⟨K.nb o.leaf, 0, none⟩), .pointer (some ⟨K.nb o.lend, 0, none⟩), .int .i64 o.steps] 98)).setCell ⟨K.tb, 2, none⟩ (.int .i64 gv))) := Ot.setCell (p := ⟨K.tb, 2, none⟩) HO2.out (Or.inl (Or.inl rfl)) _
    obtain ⟨b7, hb7⟩ : ∃ b7, w1.heap.size = b7 := ⟨_, rfl⟩
    rw [hb7] at HB73 hs1 ⊢
    generalize (w1.alloc (.cells #[.pointer (some ⟨K.nb o.leaf, 0, none⟩), .pointer (some ⟨K.nb o.lend, 0, none⟩), .int .i64 o.steps] 98)).setCell ⟨K.tb, 2, none⟩ (.int .i64 gv) = w3 at *
    clear c2 f2 l2 HA2 HB2 HB7 HO2 hb7 hgv
    have hrt := HA3.out.root
    have c2 : w3.cell? ⟨K.tb, 2, none⟩ = some (.int .i64 gv) := by simp only [World.cell?]; rw [hrt]; rfl
    have l2 := lt_of_block hrt
    have hb73 := HB73.out
    have d0 : w3.cell? ⟨b7, 0, none⟩ = some (.pointer (some ⟨K.nb o.leaf, 0, none⟩)) := by simp only [World.cell?]; rw [hb73]; rfl
    have ld := lt_of_block hb73
    obtain ⟨c14, f14⟩ := HA3.out.cells HOL.out 14 (by omega)
    have l14 := (HA3.out.node o.leaf HOL.out).blk.lt
    clear hrt hb73
    go_region
    obtain ⟨ow4, hA4⟩ := HA3.out.sentSet HOL.out gv
    rw [HS4.out] at hA4
    have hnl : K.nb o.leaf < w.heap.size := HLW.out _ (Or.inr (Or.inr ⟨_, HOL.out, Or.inl rfl⟩))
    have HA4 : Hid (HtAt K ((w3.setCell ⟨K.nb o.leaf, 14, none⟩ (.int .i64 gv)).drew) s4 vs ow4) := hA4.below (Below.refl _ _).drew
    have HB4 : Hid (((w3.setCell ⟨K.nb o.leaf, 14, none⟩ (.int .i64 gv)).drew).heap[w.heap.size]? = some (.cells #[.int .i64 0, .int .i64 0, .int .i64 0, .int .i64 0, .int .i64 0, .int .i64 0] 60 (0, 0))) := (Below.heap_setCell _ _ _ _ (by show w.heap.size ≠ K.nb o.leaf; omega)).trans HB3.out
    have HB74 : Hid (((w3.setCell ⟨K.nb o.leaf, 14, none⟩ (.int .i64 gv)).drew).heap[b7]? = some (.cells #[.pointer (some ⟨K.nb o.leaf, 0, none⟩), .pointer (some ⟨K.nb o.lend, 0, none⟩), .int .i64 o.steps] 98 (0, 0))) := (Below.heap_setCell _ _ _ _ (by show b7 ≠ K.nb o.leaf; omega)).trans HB73.out
    have HO4 : Hid (Ot (HtF K vs) w ((w3.setCell ⟨K.nb o.leaf, 14, none⟩ (.int .i64 gv)).drew)) := (Ot.setCell (p := ⟨K.nb o.leaf, 14, none⟩) HO3.out (Or.inl (Or.inr (Or.inr ⟨_, HOL.out, Or.inl rfl⟩))) _).drew
    clear c2 l2 d0 ld c14 f14 l14 HA3 HB3 HB73 HO3 hA4 HS4
    generalize (w3.setCell ⟨K.nb o.leaf, 14, none⟩ (.int .i64 gv)).drew = w4 at *
    have hb74 := HB74.out
    have d0 : w4.cell? ⟨b7, 0, none⟩ = some (.pointer (some ⟨K.nb o.leaf, 0, none⟩)) := by simp only [World.cell?]; rw [hb74]; rfl
    have d1 : w4.cell? ⟨b7, 1, none⟩ = some (.pointer (some ⟨K.nb o.lend, 0, none⟩)) := by simp only [World.cell?]; rw [hb74]; rfl
    have d2 : w4.cell? ⟨b7, 2, none⟩ = some (.int .i64 o.steps) := by simp only [World.cell?]; rw [hb74]; rfl
    have ld := lt_of_block hb74
    clear hb74
    go_wp2_with fail
    refine (HSD.out w4 ow4 HA4.out).mono ?_
    rintro e w5 ⟨rfl, vs5, ow5, HA5, HF5, HO5⟩
    have hws := lt_of_block HB4.out
    have hb5 : w5.heap[w.heap.size]? = some (.cells #[.int .i64 0, .int .i64 0, .int .i64 0, .int .i64 0, .int .i64 0, .int .i64 0] 60 (0, 0)) := (HO5.out.block _ hws (fun hk => by have := HLW.out _ hk; omega)).trans HB4.out
    have HB5 : Hid (w5.heap[w.heap.size]? = some (.cells #[.int .i64 0, .int .i64 0, .int .i64 0, .int .i64 0, .int .i64 0, .int .i64 0] 60 (0, 0))) := hb5
    have HNW : Hid (∀ k, HtF K vs5 k → k ≠ w.heap.size ∧ (HtF K vs k ∨ w.heap.size ≤ k)) := fun k hk => by
      rcases HF5.out k hk with h | h
      · have := HLW.out k h
        exact ⟨by omega, Or.inl h⟩
      · exact ⟨by omega, Or.inr (by omega)⟩
    have HO05 : Hid (Ot (HtF K vs) w w5) := HO4.out.trans HO5.out
    obtain ⟨⟨e0, e1, e2, e3, e4, e5⟩, g0, g1, g2, g3, g4, g5⟩ := six hb5
    have e6 := lt_of_block hb5
    clear hb5 d0 d1 d2 ld HA4 HB4 HB74 HO4 HO5 HF5 HSD
    go_wp2
    (try simp only [Exit.inBlock, Exit.then])
    have hz := six_set HB5.out (.int .i64 x.a) (.int .i64 x.l) (.int .i64 x.f) (.int .i64 x.b) (.int .i64 x.m) (.int .i64 x.n)
    have hot : Ot (fun k => k = w.heap.size) w5 ((((((w5.setCell ⟨w.heap.size, 0, none⟩ (.int .i64 x.a)).setCell ⟨w.heap.size, 1, none⟩ (.int .i64 x.l)).setCell ⟨w.heap.size, 2, none⟩ (.int .i64 x.f)).setCell ⟨w.heap.size, 3, none⟩ (.int .i64 x.b)).setCell ⟨w.heap.size, 4, none⟩ (.int .i64 x.m)).setCell ⟨w.heap.size, 5, none⟩ (.int .i64 x.n)) := by
      repeat' (first | with_reducible exact Ot.refl _ _ | with_reducible refine Ot.setCell ?_ (by simp) _)
    refine bodyPost_ret (v := .tuple #[x.val, .slice none 0 0, .bool true]) ?_ rfl ⟨rfl, vs5, ow5, HA5.out.kept (fun k hk => hot.block k (HA5.out.low k hk) (HNW.out k hk).1), fun k hk => (HNW.out k hk).2, HO05.out.trans' hot (fun k hk hlt => absurd hk (by omega))⟩
    rw [results_cell_tmp2 rfl]
    simp [asAddr, Result.andThen, load_held hz]
end Go.Proofs.YtpgdocmpbeabpaaDoor
