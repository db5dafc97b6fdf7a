/-
  package htb: what a class offers. Conditions: the tree lies in memory as its state tells; times up to 1000000000.
-/
import Derived.Test.YtpgdocmpbeabpaaDoorU12
import Derived.BigQuiet
import Derived.Deep.RegionHeld3
namespace Go.Proofs.YtpgdocmpbeabpaaDoor
open Go.RowKit Go.Extern.Stop Go.Stop Go.Extern

/-- The first on a way that has it, and how many steps up. -/
def lendL (f : Nat → Bool) : List Nat → Nat → Option (Nat × Nat)
  | [], _ => none
  | m :: r, k => if f m then some (m, k) else lendL f r (k + 1)
/-- An offer: the leaf, the lender, the steps. -/
structure Ofr where
  leaf : Nat
  lend : Nat
  steps : Nat
def ofV (K : HtK) : Option Ofr → Value
  | none => .agg #[.pointer none, .pointer none, .int .i64 0]
  | some o => .agg #[.pointer (some ⟨K.nb o.leaf, 0, none⟩), .pointer (some ⟨K.nb o.lend, 0, none⟩), .int .i64 o.steps]
/-- What a class offers. -/
def offM (K : HtK) (s : HtS) (now : Int) (i : Nat) : Option Ofr := match (s.nd i).L with
  | [] => none
  | x :: _ => if capB K s now x.l (some i) then none else (lendL (fun m => decide (x.l ≤ hasR K s now m)) (hL K (some i)) 0).map fun p => ⟨i, p.1, p.2⟩
theorem infoOffer : (Tryd.prog.info? 98).map (·.size) = some 3 := by kernel_rfl
theorem load_offer {w : World} {b : Nat} {t : TypeId} {fr : Nat × Nat} {a0 a1 a2 : Value} (h : w.heap[b]? = some (.cells #[a0, a1, a2] t fr)) : (loadVar 98 ⟨b, 0, none⟩).run Tryd.prog w = .ok (.agg #[a0, a1, a2]) w :=
  run_loadVar_row w b t 98 _ fr _ h Tryd.underlying98 rfl infoOffer
set_option maxRecDepth 20000 in
set_option maxHeartbeats 4000000 in
theorem offers_ht {K : HtK} {s : HtS} {vs : Nat → Value} {ow : Nat → Nat × Nat} {t : Int} {n : Nat} (hK : HtKOk K) (now : Int) {i0 : Nat} (hi0 : i0 < K.N) (w : World) (h : HtAt K w s vs ow) (hI : HtI K t n s) (hn : s.tm = now) (h2 : now ≤ 1000000000) :
    Calls Tryd.prog 42 #[.pointer (some ⟨K.nb i0, 0, none⟩), .int .i64 now] w fun e w' => e = .returned (.tuple #[ofV K (offM K s now i0), .bool (offM K s now i0).isSome]) ∧ Hid (HtAt K w' s vs ow) ∧ Hid (Ot (HtF K vs) w w') := by
  have HK : Hid (HtKOk K) := hK
  have H : Hid (HtAt K w s vs ow) := h
  obtain ⟨hd, hhd⟩ : ∃ hd, hdOr (s.nd i0).L = hd := ⟨_, rfl⟩
  obtain ⟨ok, hok⟩ : ∃ ok, (!(s.nd i0).L.isEmpty) = ok := ⟨_, rfl⟩
  have HFI : Hid (∀ W, HtAt K W s vs ow → Calls Tryd.prog 49 #[.pointer (some ⟨K.nb i0, 12, none⟩)] W fun e w' => e = .returned (.tuple #[.agg #[.int .i64 hd.a, .int .i64 hd.l, .int .i64 hd.f, .int .i64 hd.b, .int .i64 hd.m, .int .i64 hd.n], .bool ok]) ∧ Hid (HtAt K w' s vs ow) ∧ Hid (Ot (HtF K vs) W w')) := by
    intro W hW
    refine (firstO_any W (hW.node i0 hi0)).mono ?_
    rw [hhd, hok]
    rintro e w' ⟨rfl, hb⟩
    exact ⟨rfl, hW.below hb, Ot.of_below hb⟩
  have HCP : Hid (∀ W, HtAt K W s vs ow → Calls Tryd.prog 50 #[.pointer (some ⟨K.nb i0, 0, none⟩), .int .i64 now, .int .i64 hd.l] W fun e w' => e = .returned (.bool (capB K s now hd.l (some i0))) ∧ Hid (HtAt K w' s vs ow) ∧ Hid (Ot (HtF K vs) W w')) := fun W hW => capped_ht hK now hd.l hi0 W hW hI hn h2
  have HHAS : Hid (∀ W i, HtAt K W s vs ow → i < K.N → Calls Tryd.prog 45 #[.pointer (some ⟨K.rb i, 0, none⟩), .int .i64 now] W fun e w' => e = .returned (.int .i64 (hasR K s now i)) ∧ Hid (HtAt K w' s vs ow) ∧ Hid (Ot (HtF K vs) W w')) := fun W i hW hi => hasR_told hW hI hn h2 hi
  have HLW : Hid (∀ k, HtF K vs k → k ≠ w.heap.size) := fun k hk e => by have := h.low k hk; omega
  have HLW2 : Hid (∀ k, HtF K vs k → k < w.heap.size) := h.low
  obtain ⟨R, hR⟩ : ∃ R, offM K s now i0 = R := ⟨_, rfl⟩
  have HRE : Hid (R = if ok = false then none else if capB K s now hd.l (some i0) then none else (lendL (fun m => decide (hd.l ≤ hasR K s now m)) (hL K (some i0)) 0).map fun p => ⟨i0, p.1, p.2⟩) := by
    show R = _
    rw [← hR, ← hok, ← hhd]
    unfold offM
    cases (s.nd i0).L with
    | nil => rfl
    | cons x r => rfl
  rw [hR]
  clear hK h hI hn h2 hhd hok hR
  go_enter Tryd.func42, Tryd.ntmps42
  go_wp2_with fail
  have HB0 : Hid ((w.alloc (.cells #[.pointer none, .pointer none, .int .i64 0] 98)).heap[w.heap.size]? = some (.cells #[.pointer none, .pointer none, .int .i64 0] 98 (0, 0))) := new_block _ _
  have HO0 : Hid (Ot (HtF K vs) w (w.alloc (.cells #[.pointer none, .pointer none, .int .i64 0] 98))) := (Ot.refl _ _).alloc _
  have HF1 := HFI.out (w.alloc (.cells #[.pointer none, .pointer none, .int .i64 0] 98)) (H.out.below (below_alloc_ (Below.refl _ _) _))
  have hs0 : (w.alloc (.cells #[.pointer none, .pointer none, .int .i64 0] 98)).heap.size = w.heap.size + 1 := by simp
  generalize w.alloc (.cells #[.pointer none, .pointer none, .int .i64 0] 98) = w0 at *
  clear HFI
  refine HF1.mono ?_
  rintro e w1 ⟨rfl, HA1, HO1⟩
  have HBO1 : Hid (w1.heap[w.heap.size]? = some (.cells #[.pointer none, .pointer none, .int .i64 0] 98 (0, 0))) := (HO1.out.block _ (lt_of_block HB0.out) (fun hk => HLW.out _ hk rfl)).trans HB0.out
  have HO01 : Hid (Ot (HtF K vs) w w1) := HO0.out.trans HO1.out
  have hs1 : w.heap.size + 1 ≤ w1.heap.size := by have := HO1.out.size; omega
  clear HF1 HB0 HO0 HO1 hs0
  cases ok with
  | false =>
    have HM : Hid (R = none) := by show R = none; rw [HRE.out]; rfl
    have hbo : (w1.alloc (.cells #[.int .i64 hd.a, .int .i64 hd.l, .int .i64 hd.f, .int .i64 hd.b, .int .i64 hd.m, .int .i64 hd.n] 60)).heap[w.heap.size]? = some (.cells #[.pointer none, .pointer none, .int .i64 0] 98 (0, 0)) := (Below.heap_alloc _ _ _ (by omega)).trans HBO1.out
    have HBO2 : Hid ((w1.alloc (.cells #[.int .i64 hd.a, .int .i64 hd.l, .int .i64 hd.f, .int .i64 hd.b, .int .i64 hd.m, .int .i64 hd.n] 60)).heap[w.heap.size]? = some (.cells #[.pointer none, .pointer none, .int .i64 0] 98 (0, 0))) := hbo
    have HA2 : Hid (HtAt K (w1.alloc (.cells #[.int .i64 hd.a, .int .i64 hd.l, .int .i64 hd.f, .int .i64 hd.b, .int .i64 hd.m, .int .i64 hd.n] 60)) s vs ow) := HA1.out.below (below_alloc_ (Below.refl _ _) _)
    have HO2 : Hid (Ot (HtF K vs) w (w1.alloc (.cells #[.int .i64 hd.a, .int .i64 hd.l, .int .i64 hd.f, .int .i64 hd.b, .int .i64 hd.m, .int .i64 hd.n] 60))) := HO01.out.alloc _
    have o0 : (w1.alloc (.cells #[.int .i64 hd.a, .int .i64 hd.l, .int .i64 hd.f, .int .i64 hd.b, .int .i64 hd.m, .int .i64 hd.n] 60)).cell? ⟨w.heap.size, 0, none⟩ = some (.pointer none) := by simp [World.cell?, hbo]
    have o1 : (w1.alloc (.cells #[.int .i64 hd.a, .int .i64 hd.l, .int .i64 hd.f, .int .i64 hd.b, .int .i64 hd.m, .int .i64 hd.n] 60)).cell? ⟨w.heap.size, 1, none⟩ = some (.pointer none) := by simp [World.cell?, hbo]
    have o2 : (w1.alloc (.cells #[.int .i64 hd.a, .int .i64 hd.l, .int .i64 hd.f, .int .i64 hd.b, .int .i64 hd.m, .int .i64 hd.n] 60)).cell? ⟨w.heap.size, 2, none⟩ = some (.int .i64 0) := by simp [World.cell?, hbo]
    have q0 : (w1.alloc (.cells #[.int .i64 hd.a, .int .i64 hd.l, .int .i64 hd.f, .int .i64 hd.b, .int .i64 hd.m, .int .i64 hd.n] 60)).frozen? ⟨w.heap.size, 0, none⟩ = false := by simp [World.frozen?, hbo]
    have q1 : (w1.alloc (.cells #[.int .i64 hd.a, .int .i64 hd.l, .int .i64 hd.f, .int .i64 hd.b, .int .i64 hd.m, .int .i64 hd.n] 60)).frozen? ⟨w.heap.size, 1, none⟩ = false := by simp [World.frozen?, hbo]
    have q2 : (w1.alloc (.cells #[.int .i64 hd.a, .int .i64 hd.l, .int .i64 hd.f, .int .i64 hd.b, .int .i64 hd.m, .int .i64 hd.n] 60)).frozen? ⟨w.heap.size, 2, none⟩ = false := by simp [World.frozen?, hbo]
    have hbol := lt_of_block hbo
    clear hbo HCP HHAS HRE
    go_wp2
    (try simp only [Exit.inBlock, Exit.then])
    have hz : ((((w1.alloc (.cells #[.int .i64 hd.a, .int .i64 hd.l, .int .i64 hd.f, .int .i64 hd.b, .int .i64 hd.m, .int .i64 hd.n] 60)).setCell ⟨w.heap.size, 0, none⟩ (.pointer none)).setCell ⟨w.heap.size, 1, none⟩ (.pointer none)).setCell ⟨w.heap.size, 2, none⟩ (.int .i64 0)).heap[w.heap.size]? = some (.cells #[.pointer none, .pointer none, .int .i64 0] 98 (0, 0)) := by
      rw [heap_setCell_here (heap_setCell_here (heap_setCell_here HBO2.out _) _) _]
      simp
    have hot : Ot (fun k => k = w.heap.size) (w1.alloc (.cells #[.int .i64 hd.a, .int .i64 hd.l, .int .i64 hd.f, .int .i64 hd.b, .int .i64 hd.m, .int .i64 hd.n] 60)) ((((w1.alloc (.cells #[.int .i64 hd.a, .int .i64 hd.l, .int .i64 hd.f, .int .i64 hd.b, .int .i64 hd.m, .int .i64 hd.n] 60)).setCell ⟨w.heap.size, 0, none⟩ (.pointer none)).setCell ⟨w.heap.size, 1, none⟩ (.pointer none)).setCell ⟨w.heap.size, 2, none⟩ (.int .i64 0)) := by
      repeat' (first | with_reducible exact Ot.refl _ _ | with_reducible refine Ot.drew ?_ | with_reducible refine Ot.drewN ?_ _ | with_reducible refine Ot.setCell ?_ (by simp) _ | with_reducible refine Ot.alloc ?_ _)
    have hfin : Hid (HtAt K ((((w1.alloc (.cells #[.int .i64 hd.a, .int .i64 hd.l, .int .i64 hd.f, .int .i64 hd.b, .int .i64 hd.m, .int .i64 hd.n] 60)).setCell ⟨w.heap.size, 0, none⟩ (.pointer none)).setCell ⟨w.heap.size, 1, none⟩ (.pointer none)).setCell ⟨w.heap.size, 2, none⟩ (.int .i64 0)) s vs ow) ∧ Hid (Ot (HtF K vs) w ((((w1.alloc (.cells #[.int .i64 hd.a, .int .i64 hd.l, .int .i64 hd.f, .int .i64 hd.b, .int .i64 hd.m, .int .i64 hd.n] 60)).setCell ⟨w.heap.size, 0, none⟩ (.pointer none)).setCell ⟨w.heap.size, 1, none⟩ (.pointer none)).setCell ⟨w.heap.size, 2, none⟩ (.int .i64 0))) := ⟨HA2.out.kept (fun k hk => hot.block k (HA2.out.low k hk) (HLW.out k hk)), HO2.out.trans' hot (fun k hk hlt => absurd hk (by omega))⟩
    refine bodyPost_ret (v := .tuple #[.agg #[.pointer none, .pointer none, .int .i64 0], .bool false]) ?_ rfl ⟨by rw [HM.out]; rfl, hfin⟩
    rw [results_cell_tmp rfl]
    simp [asAddr, Result.andThen, load_offer hz]
  | true =>
    have HX2 : Hid ((w1.alloc (.cells #[.int .i64 hd.a, .int .i64 hd.l, .int .i64 hd.f, .int .i64 hd.b, .int .i64 hd.m, .int .i64 hd.n] 60)).heap[w1.heap.size]? = some (.cells #[.int .i64 hd.a, .int .i64 hd.l, .int .i64 hd.f, .int .i64 hd.b, .int .i64 hd.m, .int .i64 hd.n] 60 (0, 0))) := new_block _ _
    have HBO2 : Hid ((w1.alloc (.cells #[.int .i64 hd.a, .int .i64 hd.l, .int .i64 hd.f, .int .i64 hd.b, .int .i64 hd.m, .int .i64 hd.n] 60)).heap[w.heap.size]? = some (.cells #[.pointer none, .pointer none, .int .i64 0] 98 (0, 0))) := (Below.heap_alloc _ _ _ (by omega)).trans HBO1.out
    have HA2 : Hid (HtAt K (w1.alloc (.cells #[.int .i64 hd.a, .int .i64 hd.l, .int .i64 hd.f, .int .i64 hd.b, .int .i64 hd.m, .int .i64 hd.n] 60)) s vs ow) := HA1.out.below (below_alloc_ (Below.refl _ _) _)
    have HO2 : Hid (Ot (HtF K vs) w (w1.alloc (.cells #[.int .i64 hd.a, .int .i64 hd.l, .int .i64 hd.f, .int .i64 hd.b, .int .i64 hd.m, .int .i64 hd.n] 60))) := HO01.out.alloc _
    have hx2 : (w1.alloc (.cells #[.int .i64 hd.a, .int .i64 hd.l, .int .i64 hd.f, .int .i64 hd.b, .int .i64 hd.m, .int .i64 hd.n] 60)).cell? ⟨w1.heap.size, 1, none⟩ = some (.int .i64 hd.l) := by
      have h := HX2.out
      simp only [World.cell?]
      rw [h]
      rfl
    have hxl := lt_of_block HX2.out
    go_wp2_with fail
    obtain ⟨bx, hbx⟩ : ∃ bx, w1.heap.size = bx := ⟨_, rfl⟩
    rw [hbx] at HX2 hx2 hxl hs1 ⊢
    generalize w1.alloc (.cells #[.int .i64 hd.a, .int .i64 hd.l, .int .i64 hd.f, .int .i64 hd.b, .int .i64 hd.m, .int .i64 hd.n] 60) = w2 at *
    refine (HCP.out w2 HA2.out).mono ?_
    rintro e w3 ⟨rfl, HA3, HO3⟩
    have HBX : Hid (∀ k, HtF K vs k → k ≠ bx) := fun k hk e => by have := HLW2.out k hk; omega
    have HX3 : Hid (w3.heap[bx]? = some (.cells #[.int .i64 hd.a, .int .i64 hd.l, .int .i64 hd.f, .int .i64 hd.b, .int .i64 hd.m, .int .i64 hd.n] 60 (0, 0))) := (HO3.out.block _ hxl (fun hk => HBX.out _ hk rfl)).trans HX2.out
    have HBO3 : Hid (w3.heap[w.heap.size]? = some (.cells #[.pointer none, .pointer none, .int .i64 0] 98 (0, 0))) := (HO3.out.block _ (lt_of_block HBO2.out) (fun hk => HLW.out _ hk rfl)).trans HBO2.out
    have HO03 : Hid (Ot (HtF K vs) w w3) := HO2.out.trans HO3.out
    clear HA1 HBO1 HO01 HX2 HBO2 HA2 HO2 HO3 hx2 hxl hbx HCP
    cases hcp : capB K s now hd.l (some i0) with
    | true =>
      have HM : Hid (R = none) := by show R = none; rw [HRE.out, hcp]; rfl
      have hbo := HBO3.out
      have o0 : w3.cell? ⟨w.heap.size, 0, none⟩ = some (.pointer none) := by simp [World.cell?, hbo]
      have o1 : w3.cell? ⟨w.heap.size, 1, none⟩ = some (.pointer none) := by simp [World.cell?, hbo]
      have o2 : w3.cell? ⟨w.heap.size, 2, none⟩ = some (.int .i64 0) := by simp [World.cell?, hbo]
      have q0 : w3.frozen? ⟨w.heap.size, 0, none⟩ = false := by simp [World.frozen?, hbo]
      have q1 : w3.frozen? ⟨w.heap.size, 1, none⟩ = false := by simp [World.frozen?, hbo]
      have q2 : w3.frozen? ⟨w.heap.size, 2, none⟩ = false := by simp [World.frozen?, hbo]
      have hbol := lt_of_block hbo
      clear hbo HRE hcp HHAS
      go_wp2
      (try simp only [Exit.inBlock, Exit.then])
      have hz : (((w3.setCell ⟨w.heap.size, 0, none⟩ (.pointer none)).setCell ⟨w.heap.size, 1, none⟩ (.pointer none)).setCell ⟨w.heap.size, 2, none⟩ (.int .i64 0)).heap[w.heap.size]? = some (.cells #[.pointer none, .pointer none, .int .i64 0] 98 (0, 0)) := by
        rw [heap_setCell_here (heap_setCell_here (heap_setCell_here HBO3.out _) _) _]
        simp
      have hot : Ot (fun k => k = w.heap.size) w3 (((w3.setCell ⟨w.heap.size, 0, none⟩ (.pointer none)).setCell ⟨w.heap.size, 1, none⟩ (.pointer none)).setCell ⟨w.heap.size, 2, none⟩ (.int .i64 0)) := by
        repeat' (first | with_reducible exact Ot.refl _ _ | with_reducible refine Ot.drew ?_ | with_reducible refine Ot.drewN ?_ _ | with_reducible refine Ot.setCell ?_ (by simp) _ | with_reducible refine Ot.alloc ?_ _)
      have hfin : Hid (HtAt K (((w3.setCell ⟨w.heap.size, 0, none⟩ (.pointer none)).setCell ⟨w.heap.size, 1, none⟩ (.pointer none)).setCell ⟨w.heap.size, 2, none⟩ (.int .i64 0)) s vs ow) ∧ Hid (Ot (HtF K vs) w (((w3.setCell ⟨w.heap.size, 0, none⟩ (.pointer none)).setCell ⟨w.heap.size, 1, none⟩ (.pointer none)).setCell ⟨w.heap.size, 2, none⟩ (.int .i64 0))) := ⟨HA3.out.kept (fun k hk => hot.block k (HA3.out.low k hk) (HLW.out k hk)), HO03.out.trans' hot (fun k hk hlt => absurd hk (by omega))⟩
      refine bodyPost_ret (v := .tuple #[.agg #[.pointer none, .pointer none, .int .i64 0], .bool false]) ?_ rfl ⟨by rw [HM.out]; rfl, hfin⟩
      rw [results_cell_tmp rfl]
      simp [asAddr, Result.andThen, load_offer hz]
    | false =>
      have HRF : Hid (R = (lendL (fun m => decide (hd.l ≤ hasR K s now m)) (hL K (some i0)) 0).map fun p => ⟨i0, p.1, p.2⟩) := by show R = _; rw [HRE.out, hcp]; rfl
      have h16 := HK.out.n16
      clear HRE hcp
      go_wp2
      go_loopg [8, 9] (oIdx (some i0)) (fun gh sv mv wr => ∃ (o : Option Nat) (k : Nat), oIdx o = gh ∧ (∀ i, o = some i → i < K.N) ∧ mv = ndV K o ∧ sv = .int .i64 k ∧ k + oIdx o ≤ i0 + 1 ∧ Hid (HtAt K wr s vs ow) ∧ Hid (Ot (HtF K vs) w wr) ∧ Hid (wr.heap[bx]? = some (.cells #[.int .i64 hd.a, .int .i64 hd.l, .int .i64 hd.f, .int .i64 hd.b, .int .i64 hd.m, .int .i64 hd.n] 60 (0, 0))) ∧ Hid (wr.heap[w.heap.size]? = some (.cells #[.pointer none, .pointer none, .int .i64 0] 98 (0, 0))) ∧ Hid (R = (lendL (fun m => decide (hd.l ≤ hasR K s now m)) (hL K o) k).map fun p => ⟨i0, p.1, p.2⟩))
      case atStart => exact ⟨some i0, 0, rfl, fun i hi => by cases hi; exact hi0, rfl, rfl, by show 0 + (i0 + 1) ≤ _; omega, HA3, HO03, HX3, HBO3, HRF⟩
      case round =>
        clear HA3 HO03 HX3 HBO3 HRF
        obtain ⟨o, k, hgk, ho, rfl, rfl, hkk, HA, HO, HX, HBO, HR⟩ := hrel
        cases o with
        | none =>
          have HM : Hid (R = none) := by show R = none; rw [HR.out]; rfl
          have hbo := HBO.out
          have o0 : wr.cell? ⟨w.heap.size, 0, none⟩ = some (.pointer none) := by simp [World.cell?, hbo]
          have o1 : wr.cell? ⟨w.heap.size, 1, none⟩ = some (.pointer none) := by simp [World.cell?, hbo]
          have o2 : wr.cell? ⟨w.heap.size, 2, none⟩ = some (.int .i64 0) := by simp [World.cell?, hbo]
          have q0 : wr.frozen? ⟨w.heap.size, 0, none⟩ = false := by simp [World.frozen?, hbo]
          have q1 : wr.frozen? ⟨w.heap.size, 1, none⟩ = false := by simp [World.frozen?, hbo]
          have q2 : wr.frozen? ⟨w.heap.size, 2, none⟩ = false := by simp [World.frozen?, hbo]
          have hbol := lt_of_block hbo
          clear hbo HR ho HHAS
          show Code.wp _ _ _ _ _
          unfold ndV
          go_wp2
          (try simp only [Exit.inBlock, Exit.then])
          have hz : (((wr.setCell ⟨w.heap.size, 0, none⟩ (.pointer none)).setCell ⟨w.heap.size, 1, none⟩ (.pointer none)).setCell ⟨w.heap.size, 2, none⟩ (.int .i64 0)).heap[w.heap.size]? = some (.cells #[.pointer none, .pointer none, .int .i64 0] 98 (0, 0)) := by
            rw [heap_setCell_here (heap_setCell_here (heap_setCell_here HBO.out _) _) _]
            simp
          have hot : Ot (fun k => k = w.heap.size) wr (((wr.setCell ⟨w.heap.size, 0, none⟩ (.pointer none)).setCell ⟨w.heap.size, 1, none⟩ (.pointer none)).setCell ⟨w.heap.size, 2, none⟩ (.int .i64 0)) := by
            repeat' (first | with_reducible exact Ot.refl _ _ | with_reducible refine Ot.drew ?_ | with_reducible refine Ot.drewN ?_ _ | with_reducible refine Ot.setCell ?_ (by simp) _ | with_reducible refine Ot.alloc ?_ _)
          have hfin : Hid (HtAt K (((wr.setCell ⟨w.heap.size, 0, none⟩ (.pointer none)).setCell ⟨w.heap.size, 1, none⟩ (.pointer none)).setCell ⟨w.heap.size, 2, none⟩ (.int .i64 0)) s vs ow) ∧ Hid (Ot (HtF K vs) w (((wr.setCell ⟨w.heap.size, 0, none⟩ (.pointer none)).setCell ⟨w.heap.size, 1, none⟩ (.pointer none)).setCell ⟨w.heap.size, 2, none⟩ (.int .i64 0))) := ⟨HA.out.kept (fun k hk => hot.block k (HA.out.low k hk) (HLW.out k hk)), HO.out.trans' hot (fun k hk hlt => absurd hk (by omega))⟩
          refine bodyPost_ret (v := .tuple #[.agg #[.pointer none, .pointer none, .int .i64 0], .bool false]) ?_ rfl ⟨by rw [HM.out]; rfl, hfin⟩
          rw [results_cell_tmp rfl]
          simp [asAddr, Result.andThen, load_offer hz]
        | some i =>
          have hi := ho i rfl
          have HI : Hid (i < K.N) := hi
          have c10 : wr.cell? ⟨K.nb i, 10, none⟩ = some (.pointer (some ⟨K.rb i, 0, none⟩)) := (HA.out.cells hi 10 (by omega)).1
          have cx : wr.cell? ⟨bx, 1, none⟩ = some (.int .i64 hd.l) := by
            have h := HX.out
            simp [World.cell?, h]
          have hxl := lt_of_block HX.out
          have hbl := (HA.out.node i hi).blk.lt
          obtain ⟨hup1, hup2⟩ := oIdx_up HK.out hi
          have hoi : oIdx (some i) = i + 1 := rfl
          rw [hoi] at hup1 hkk hgk
          have HCL := HHAS.out wr.drew i (HA.out.below (Below.refl _ _).drew) hi
          have HR2 : Hid (R = (if decide (hd.l ≤ hasR K s now i) then some (i, k) else lendL (fun m => decide (hd.l ≤ hasR K s now m)) (hL K (hUp K i)) (k + 1)).map fun p => ⟨i0, p.1, p.2⟩) := by
            have h := HR.out
            rw [hL_some HK.out hi] at h
            exact h
          obtain ⟨hv, hhv⟩ : ∃ hv, hasR K s now i = hv := ⟨_, rfl⟩
          rw [hhv] at HCL HR2
          have HCF : Hid (∀ W, HtAt K W s vs ow → Ot (HtF K vs) wr.drew W → W.cell? ⟨K.nb i, 10, none⟩ = some (.pointer (some ⟨K.rb i, 0, none⟩)) ∧ W.cell? ⟨bx, 1, none⟩ = some (.int .i64 hd.l)) := by
            intro W hW ho
            refine ⟨(hW.cells HI.out 10 (by omega)).1, ?_⟩
            rw [ho.cell (p := ⟨bx, 1, none⟩) hxl (fun hk => HBX.out _ hk rfl)]
            exact cx
          have HF0 : wr.drew.cell? ⟨K.nb i, 10, none⟩ = some (.pointer (some ⟨K.rb i, 0, none⟩)) ∧ wr.drew.cell? ⟨bx, 1, none⟩ = some (.int .i64 hd.l) := ⟨c10, cx⟩
          have HCLL : Hid (Calls Tryd.prog 45 #[.pointer (some ⟨K.rb i, 0, none⟩), .int .i64 now] wr.drew fun e w' => e = .returned (.int .i64 hv) ∧ Hid (HtAt K w' s vs ow) ∧ Hid (Ot (HtF K vs) wr.drew w')) := HCL
          clear HR hhv hi HCL c10 cx
          show Code.wp _ _ _ _ _
          unfold ndV
          by_cases h1 : hd.l ≤ hv
          · have d1 : decide (hd.l ≤ hv) = true := decide_eq_true h1
            have HM : Hid (R = some ⟨i0, i, k⟩) := by show R = _; rw [HR2.out, d1]; rfl
            clear HR2 h1
            go_wp2_with fail
            go_region_held3 (fun W => W.cell? ⟨K.nb i, 10, none⟩ = some (.pointer (some ⟨K.rb i, 0, none⟩)) ∧ W.cell? ⟨bx, 1, none⟩ = some (.int .i64 hd.l))
              (first | (exact HF4) | (exact HF0))
              (first | (go_at_call 45; refine HCLL.out.mono ?_; rintro e w4 ⟨rfl, HA4, HO4⟩; have HF4 := HCF.out w4 HA4.out HO4.out))
            have hbo : w4.heap[w.heap.size]? = some (.cells #[.pointer none, .pointer none, .int .i64 0] 98 (0, 0)) := (HO4.out.block _ (lt_of_block HBO.out) (fun hk => HLW.out _ hk rfl)).trans HBO.out
            have HBO4 : Hid (w4.heap[w.heap.size]? = some (.cells #[.pointer none, .pointer none, .int .i64 0] 98 (0, 0))) := hbo
            have HO04 : Hid (Ot (HtF K vs) w w4) := HO.out.drew.trans HO4.out
            have o0 : w4.cell? ⟨w.heap.size, 0, none⟩ = some (.pointer none) := by simp [World.cell?, hbo]
            have o1 : w4.cell? ⟨w.heap.size, 1, none⟩ = some (.pointer none) := by simp [World.cell?, hbo]
            have o2 : w4.cell? ⟨w.heap.size, 2, none⟩ = some (.int .i64 0) := by simp [World.cell?, hbo]
            have q0 : w4.frozen? ⟨w.heap.size, 0, none⟩ = false := by simp [World.frozen?, hbo]
            have q1 : w4.frozen? ⟨w.heap.size, 1, none⟩ = false := by simp [World.frozen?, hbo]
            have q2 : w4.frozen? ⟨w.heap.size, 2, none⟩ = false := by simp [World.frozen?, hbo]
            have hbol := lt_of_block hbo
            clear hbo
            go_wp2
            (try simp only [Exit.inBlock, Exit.then])
            have hz : (((w4.setCell ⟨w.heap.size, 0, none⟩ (.pointer (some ⟨K.nb i0, 0, none⟩))).setCell ⟨w.heap.size, 1, none⟩ (.pointer (some ⟨K.nb i, 0, none⟩))).setCell ⟨w.heap.size, 2, none⟩ (.int .i64 (k : Int))).heap[w.heap.size]? = some (.cells #[.pointer (some ⟨K.nb i0, 0, none⟩), .pointer (some ⟨K.nb i, 0, none⟩), .int .i64 (k : Int)] 98 (0, 0)) := by
              rw [heap_setCell_here (heap_setCell_here (heap_setCell_here HBO4.out _) _) _]
              simp
            have hot : Ot (fun k => k = w.heap.size) w4 (((w4.setCell ⟨w.heap.size, 0, none⟩ (.pointer (some ⟨K.nb i0, 0, none⟩))).setCell ⟨w.heap.size, 1, none⟩ (.pointer (some ⟨K.nb i, 0, none⟩))).setCell ⟨w.heap.size, 2, none⟩ (.int .i64 (k : Int))) := by
              repeat' (first | with_reducible exact Ot.refl _ _ | with_reducible refine Ot.drew ?_ | with_reducible refine Ot.drewN ?_ _ | with_reducible refine Ot.setCell ?_ (by simp) _ | with_reducible refine Ot.alloc ?_ _)
            have hfin : Hid (HtAt K (((w4.setCell ⟨w.heap.size, 0, none⟩ (.pointer (some ⟨K.nb i0, 0, none⟩))).setCell ⟨w.heap.size, 1, none⟩ (.pointer (some ⟨K.nb i, 0, none⟩))).setCell ⟨w.heap.size, 2, none⟩ (.int .i64 (k : Int))) s vs ow) ∧ Hid (Ot (HtF K vs) w (((w4.setCell ⟨w.heap.size, 0, none⟩ (.pointer (some ⟨K.nb i0, 0, none⟩))).setCell ⟨w.heap.size, 1, none⟩ (.pointer (some ⟨K.nb i, 0, none⟩))).setCell ⟨w.heap.size, 2, none⟩ (.int .i64 (k : Int)))) := ⟨HA4.out.kept (fun k hk => hot.block k (HA4.out.low k hk) (HLW.out k hk)), HO04.out.trans' hot (fun k hk hlt => absurd hk (by omega))⟩
            refine bodyPost_ret (v := .tuple #[.agg #[.pointer (some ⟨K.nb i0, 0, none⟩), .pointer (some ⟨K.nb i, 0, none⟩), .int .i64 (k : Int)], .bool true]) ?_ rfl ⟨by rw [HM.out]; rfl, hfin⟩
            rw [results_cell_tmp rfl]
            simp [asAddr, Result.andThen, load_offer hz]
          · have d1 : decide (hd.l ≤ hv) = false := decide_eq_false h1
            have HM : Hid (R = (lendL (fun m => decide (hd.l ≤ hasR K s now m)) (hL K (hUp K i)) (k + 1)).map fun p => ⟨i0, p.1, p.2⟩) := by show R = _; rw [HR2.out, d1]; rfl
            clear HR2 h1
            go_wp2_with fail
            go_region_held3 (fun W => W.cell? ⟨K.nb i, 10, none⟩ = some (.pointer (some ⟨K.rb i, 0, none⟩)) ∧ W.cell? ⟨bx, 1, none⟩ = some (.int .i64 hd.l))
              (first | (exact HF4) | (exact HF0))
              (first | (go_at_call 45; refine HCLL.out.mono ?_; rintro e w4 ⟨rfl, HA4, HO4⟩; have HF4 := HCF.out w4 HA4.out HO4.out))
            have c8 : w4.cell? ⟨K.nb i, 8, none⟩ = some (ndV K (hUp K i)) := (HA4.out.cells HI.out 8 (by omega)).1
            have hbl4 := (HA4.out.node i HI.out).blk.lt
            obtain ⟨uv, huv⟩ : ∃ uv, ndV K (hUp K i) = uv := ⟨_, rfl⟩
            have HUV : Hid (ndV K (hUp K i) = uv) := huv
            rw [huv] at c8
            clear huv
            go_wp2
            go_roundg (oIdx (hUp K i))
            case measure => omega
            case rel => exact ⟨hUp K i, k + 1, rfl, hup2, HUV.out.symm, by go_num, by omega, HA4, HO.out.drew.trans HO4.out, (HO4.out.block _ hxl (fun hk => HBX.out _ hk rfl)).trans HX.out, (HO4.out.block _ (lt_of_block HBO.out) (fun hk => HLW.out _ hk rfl)).trans HBO.out, HM.out⟩
end Go.Proofs.YtpgdocmpbeabpaaDoor
