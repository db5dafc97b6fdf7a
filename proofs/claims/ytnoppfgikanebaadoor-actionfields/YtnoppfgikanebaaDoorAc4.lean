/-
  Program.step: what an action does with a packet that stays, with counters and buckets, and which one comes next. Conditions: a program that may be, a packet that may be.
-/
import Derived.Test.YtnoppfgikanebaaDoorAc3
namespace Go.Proofs.YtnoppfgikanebaaDoor
open Go.RowKit Go.Extern.Stop Go.Stop Go.Extern

/-- How far a packet is: the next action, the packet, the counters, the buckets. -/
structure AS where
  i : Nat
  x : It
  C : List Int
  B : List Bs
def takeB (b : Bs) (now l : Int) : Bs := ⟨b.n, b.t, b.R, drw b.t (pas b.n b.t b.R b.lev b.lat now) l, lat1 b.lat now⟩
def takeOk (b : Bs) (now l : Int) : Bool := drwB b.t (pas b.n b.t b.R b.lev b.lat now) l
def zeroB : Bs := ⟨0, 0, 0, 0, 0⟩
def stepA (a : Ac) (s : AS) : AS :=
  if a.k = 3 then { s with i := s.i + 1, x := { s.x with m := a.a } }
  else if a.k = 4 then { s with i := s.i + 1, x := { s.x with b := a.a } }
  else if a.k = 5 then { s with i := s.i + 1, x := { s.x with f := a.a } }
  else if a.k = 6 then { s with i := s.i + 1, C := s.C.set a.a.toNat (wrap64 (s.C.getD a.a.toNat 0 + 1)) }
  else if a.k = 7 then { s with i := a.a.toNat }
  else if a.k = 8 then { s with i := if s.x.m = a.a then a.b.toNat else s.i + 1 }
  else if a.k = 9 then { s with i := if takeOk (s.B.getD a.a.toNat zeroB) s.x.a s.x.l = true then s.i + 1 else a.b.toNat, B := s.B.set a.a.toNat (takeB (s.B.getD a.a.toNat zeroB) s.x.a s.x.l) }
  else { s with i := if a.a < s.x.l then a.b.toNat else s.i + 1 }
theorem takeB_ok {b : Bs} (h : b.ok) (now l : Int) (hl : 0 ≤ l) : (takeB b now l).ok := by
  obtain ⟨p0, p1⟩ := pas_room (n := b.n) (t := b.t) (R := b.R) (lat := b.lat) (now := now) h.okb.1.1 h.l0 h.l1
  refine ⟨h.okb, ?_, ?_, ?_⟩
  · show 0 ≤ drw _ _ _
    unfold drw
    split <;> omega
  · show drw _ _ _ ≤ b.R * b.t
    unfold drw
    have : 0 ≤ l * b.t := Int.mul_nonneg hl (by have := h.okb.2.1.1; omega)
    split <;> omega
  · show 0 ≤ lat1 _ _
    have := h.t0
    unfold lat1
    split <;> omega

/-! ### Memory -/
def ItAt (w : World) (xb : Nat) (x : It) : Prop := w.heap[xb]? = some (.cells x.cells 25 (0, 0))
theorem ItAt.lt {w : World} {xb : Nat} {x : It} (h : ItAt w xb x) : xb < w.heap.size := lt_of_block h
theorem ItAt.cell {w : World} {xb : Nat} {x : It} (h : ItAt w xb x) : w.cell? ⟨xb, 0, none⟩ = some (.int .i64 x.a) ∧ w.cell? ⟨xb, 1, none⟩ = some (.int .i64 x.l) ∧ w.cell? ⟨xb, 2, none⟩ = some (.int .i64 x.f) ∧ w.cell? ⟨xb, 3, none⟩ = some (.int .i64 x.b) ∧ w.cell? ⟨xb, 4, none⟩ = some (.int .i64 x.m) := by
  have e : w.heap[xb]? = some (.cells x.cells 25 (0, 0)) := h
  simp only [World.cell?, e]
  exact ⟨rfl, rfl, rfl, rfl, rfl⟩
theorem ItAt.frozen {w : World} {xb : Nat} {x : It} (h : ItAt w xb x) (i : Nat) : w.frozen? ⟨xb, i, none⟩ = false := by
  have e : w.heap[xb]? = some (.cells x.cells 25 (0, 0)) := h
  simp [World.frozen?, e]
theorem ItAt.kept {w w' : World} {xb : Nat} {x : It} (h : ItAt w xb x) (hb : w'.heap[xb]? = w.heap[xb]?) : ItAt w' xb x := hb.trans h
/-- Only other blocks turned. -/
theorem PrAt.kept {w w' : World} {H0 pb : Nat} {av bv : Value} {ps : List Nat} {L : List Ac} {C : List Int} {B : List Bs} (h : PrAt w H0 pb av bv ps L C B) (h1 : w'.heap[pb]? = w.heap[pb]?) (h2 : ∀ s ∈ ps, w'.heap[s]? = w.heap[s]?) (h3 : ∀ k, av.ownBlock = some k → w'.heap[k]? = w.heap[k]?) (h4 : ∀ k, bv.ownBlock = some k → w'.heap[k]? = w.heap[k]?) : PrAt w' H0 pb av bv ps L C B :=
  ⟨h1.trans h.hd, h.cl, h.acts.kept h3, h.bks.kept h4, h.nd, fun i s b k1 k2 => by
    obtain ⟨g1, g2⟩ := h.st i s b k1 k2
    exact ⟨g1.same (h2 s (List.mem_iff_getElem?.2 ⟨i, k1⟩)), g2⟩, h.hb, h.hs⟩
theorem PrAt.drew {w : World} {H0 pb : Nat} {av bv : Value} {ps : List Nat} {L : List Ac} {C : List Int} {B : List Bs} (h : PrAt w H0 pb av bv ps L C B) : PrAt w.drew H0 pb av bv ps L C B := ⟨h.hd, h.cl, h.acts, h.bks, h.nd, h.st, h.hb, h.hs⟩
theorem PrAt.drewN {w : World} {H0 pb : Nat} {av bv : Value} {ps : List Nat} {L : List Ac} {C : List Int} {B : List Bs} (h : PrAt w H0 pb av bv ps L C B) (n : Nat) : PrAt (w.drewN n) H0 pb av bv ps L C B := ⟨h.hd, h.cl, h.acts, h.bks, h.nd, h.st, h.hb, h.hs⟩
theorem stg_drew {w : World} {s o : Nat} {pre post : List Value} {ty : TypeId} {n t R lev lat : Int} (h : StG w s o pre post ty n t R lev lat) : StG w.drew s o pre post ty n t R lev lat := h
theorem PrAt.stat {w : World} {H0 pb : Nat} {av bv : Value} {ps : List Nat} {L : List Ac} {C : List Int} {B : List Bs} (h : PrAt w H0 pb av bv ps L C B) {s : Nat} (hs : s ∈ ps) : ∃ cur, w.heap[s]? = some (.cells cur 69 (0, 0)) := by
  obtain ⟨i, hi⟩ := List.mem_iff_getElem?.1 hs
  have hl : i < B.length := by
    have := (List.getElem?_eq_some_iff.1 hi).1
    rwa [h.len] at this
  exact ⟨_, (h.st i s B[i] hi (List.getElem?_eq_getElem hl)).1.2⟩
/-- A packet's cell is set. -/
theorem PrAt.setX {w : World} {H0 pb : Nat} {av bv : Value} {ps : List Nat} {L : List Ac} {C : List Int} {B : List Bs} (h : PrAt w H0 pb av bv ps L C B) {xb : Nat} {x : It} (hx : ItAt w xb x) (i : Nat) (u : Value) : PrAt (w.setCell ⟨xb, i, none⟩ u) H0 pb av bv ps L C B := by
  have hx' : w.heap[xb]? = some (.cells x.cells 25 (0, 0)) := hx
  refine h.kept (Below.heap_setCell _ _ _ _ (noEqT h.hd hx' (by decide))) (fun s hs => ?_) (fun k hk => ?_) (fun k hk => ?_)
  · obtain ⟨cur, hc⟩ := h.stat hs
    exact Below.heap_setCell _ _ _ _ (noEqT hc hx' (by decide))
  · obtain ⟨cur, hc⟩ := h.acts.ty hk
    exact Below.heap_setCell _ _ _ _ (noEqT hc hx' (by decide))
  · obtain ⟨cur, hc⟩ := h.bks.ty hk
    exact Below.heap_setCell _ _ _ _ (noEqT hc hx' (by decide))
/-- A counter is set. -/
theorem PrAt.setC {w : World} {H0 pb : Nat} {av bv : Value} {ps : List Nat} {L : List Ac} {C : List Int} {B : List Bs} (h : PrAt w H0 pb av bv ps L C B) (j : Nat) (v : Int) : PrAt (w.setCell ⟨pb, 2 + j, none⟩ (.int .i64 v)) H0 pb av bv ps L (C.set j v) B := by
  refine ⟨?_, by simp [h.cl], ?_, ?_, h.nd, ?_, h.hb, h.hs⟩
  · rw [heap_setCell_here h.hd]
    congr 2
    rw [List.setIfInBounds_toArray, show 2 + j = j + 1 + 1 by omega, List.set_cons_succ, List.set_cons_succ, List.map_set]
  · refine h.acts.kept fun k hk => ?_
    obtain ⟨cur, hc⟩ := h.acts.ty hk
    exact Below.heap_setCell _ _ _ _ (noEqT hc h.hd (by decide))
  · refine h.bks.kept fun k hk => ?_
    obtain ⟨cur, hc⟩ := h.bks.ty hk
    exact Below.heap_setCell _ _ _ _ (noEqT hc h.hd (by decide))
  · intro i s b k1 k2
    obtain ⟨g1, g2⟩ := h.st i s b k1 k2
    exact ⟨g1.same (Below.heap_setCell _ _ _ _ (noEqT g1.2 h.hd (by decide))), g2⟩
/-- A bucket turned. -/
theorem PrAt.turn {w w' : World} {H0 pb : Nat} {av bv : Value} {ps : List Nat} {L : List Ac} {C : List Int} {B : List Bs} (h : PrAt w H0 pb av bv ps L C B) {j s : Nat} (hj : ps[j]? = some s) {b' : Bs} (hb' : b'.ok) (hst : StAt w' s b'.n b'.t b'.R b'.lev b'.lat) (ho : Oth (· = s) w w') : PrAt w' H0 pb av bv ps L C (B.set j b') := by
  obtain ⟨cur0, hc0⟩ := h.stat (List.mem_iff_getElem?.2 ⟨j, hj⟩)
  refine ⟨(ho.block pb h.lt (noEqT h.hd hc0 (by decide))).trans h.hd, h.cl, ?_, ?_, h.nd, ?_, h.hb, h.hs⟩
  · refine h.acts.kept fun k hk => ?_
    obtain ⟨cur, hc⟩ := h.acts.ty hk
    exact ho.block k (lt_of_block hc) (noEqT hc hc0 (by decide))
  · rw [List.length_set]
    refine h.bks.kept fun k hk => ?_
    obtain ⟨cur, hc⟩ := h.bks.ty hk
    exact ho.block k (lt_of_block hc) (noEqT hc hc0 (by decide))
  · intro i s2 b2 k1 k2
    by_cases e : i = j
    · subst e
      rw [hj] at k1
      obtain rfl := Option.some.inj k1
      have hl : i < B.length := by
        have := (List.getElem?_eq_some_iff.1 hj).1
        rwa [h.len] at this
      rw [List.getElem?_set_self hl] at k2
      obtain rfl := Option.some.inj k2
      exact ⟨hst, hb'⟩
    · rw [List.getElem?_set_ne (fun h => e h.symm)] at k2
      obtain ⟨g1, g2⟩ := h.st i s2 b2 k1 k2
      refine ⟨g1.same (ho.block s2 g1.lt (fun e2 => ?_)), g2⟩
      subst e2
      exact e ((List.getElem?_inj (List.getElem?_eq_some_iff.1 k1).1 h.nd).1 (k1.trans hj.symm))
theorem PrAt.count {w : World} {H0 pb : Nat} {av bv : Value} {ps : List Nat} {L : List Ac} {C : List Int} {B : List Bs} (h : PrAt w H0 pb av bv ps L C B) {j : Nat} (hj : j < 8) : w.cell? ⟨pb, 2 + j, none⟩ = some (.int .i64 (C.getD j 0)) := by
  refine (h.cell (i := 2 + j) ?_).1
  have hl : j < C.length := by rw [h.cl]; exact hj
  rw [show 2 + j = j + 1 + 1 by omega, List.getElem?_cons_succ, List.getElem?_cons_succ, List.getElem?_map, List.getD_eq_getElem?_getD, List.getElem?_eq_getElem hl]
  rfl
theorem PrAt.bucket {w : World} {H0 pb : Nat} {av bv : Value} {ps : List Nat} {L : List Ac} {C : List Int} {B : List Bs} (h : PrAt w H0 pb av bv ps L C B) {j : Nat} (hj : j < B.length) : ∃ s b off cap, ps[j]? = some s ∧ bv = .slice (some ⟨b, off, none⟩) B.length cap ∧ b < w.heap.size ∧ w.cell? ⟨b, off + j, none⟩ = some (.pointer (some ⟨s, 0, none⟩)) ∧ StAt w s (B.getD j zeroB).n (B.getD j zeroB).t (B.getD j zeroB).R (B.getD j zeroB).lev (B.getD j zeroB).lat ∧ (B.getD j zeroB).ok := by
  have hl : j < ps.length := by rw [h.len]; exact hj
  obtain ⟨b, off, cap, e, _, _, hb, hc⟩ := h.bks.some (by omega)
  have hs := List.getElem?_eq_getElem hl
  have hb2 := List.getElem?_eq_getElem hj
  obtain ⟨g1, g2⟩ := h.st j _ _ hs hb2
  refine ⟨ps[j], b, off, cap, hs, e, hb, hc j _ (by rw [List.getElem?_map, hs]; rfl), ?_⟩
  rw [List.getD_eq_getElem?_getD, hb2]
  exact ⟨g1, g2⟩
end Go.Proofs.YtnoppfgikanebaaDoor
