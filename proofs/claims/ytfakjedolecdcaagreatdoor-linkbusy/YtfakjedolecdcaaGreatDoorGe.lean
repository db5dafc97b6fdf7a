/-
  package plant: a Fifo that a text tells. Conditions: its two numbers are room that may be.
  package plant: a queue that begins with fifo or head. Conditions: as for a Fifo; not too many queues have begun, nor stand around.
-/
import Derived.Test.YtfakjedolecdcaaGreatDoorPn1
import Derived.Test.YtfakjedolecdcaaGreatDoorGd
namespace Go.Proofs.YtfakjedolecdcaaGreatDoor
open Go.RowKit Go.Extern.Stop Go.Stop Go.Extern

theorem made_yes (x : List UInt8 × Nat) (qv : Value) (w : World) :
    Calls Tryz.prog 46 #[.agg #[.string ⟨x.1.toArray⟩, .int .i64 x.2], qv, .nilIface] w fun e w' => e = .returned (.tuple #[qv, .nilIface]) ∧ Below w.heap.size w w' := by
  go_enter Tryz.func46, Tryz.ntmps46
  go_wp2
  go_ret2
  exact ⟨rfl, below_alloc_ (Below.refl _ _) _⟩
theorem end_any (x : List UInt8 × Nat) (w : World) :
    Calls Tryz.prog 21 #[.agg #[.string ⟨x.1.toArray⟩, .int .i64 x.2]] w fun e w' => e = .returned (.bool (x.1 == [])) ∧ Below w.heap.size w w' := by
  go_enter Tryz.func21, Tryz.ntmps21
  go_wp2
  go_ret
  exact ⟨by simp, below_alloc_ (Below.refl _ _) _⟩
def headB : List UInt8 := [104, 101, 97, 100]
def fifoB : List UInt8 := [102, 105, 102, 111]
set_option maxHeartbeats 2000000 in
theorem fifo_yes {b : Nat} {n : Nat} {rest : List Value} {v : Value} {x1 x2 : List UInt8 × Nat} {R : List (List UInt8 × Nat)} (f : List UInt8 × Nat) (P Rm : Int) (w : World) (h : RdAt w b 65 n rest v (x1 :: x2 :: R)) (hB : ∀ w', Ot (fun k => k = b) w w' → Glob w') (h1 : numL x1.1 = some P) (h2 : numL x2.1 = some Rm) (hl1 : x1.1.length ≤ 2000) (hl2 : x2.1.length ≤ 2000) (hP : 0 ≤ P ∧ P ≤ 1000000) (hR : 0 ≤ Rm ∧ Rm ≤ 1000000) :
    Calls Tryz.prog 31 #[.pointer (some ⟨b, 0, none⟩), .agg #[.string ⟨f.1.toArray⟩, .int .i64 f.2]] w fun e w' => ∃ q v', e = .returned (.tuple #[.iface 86 (.pointer (some ⟨q, 0, none⟩)), .nilIface]) ∧ w.heap.size ≤ q ∧ LAt w' q 110 (frest P Rm (f.1 == headB) []) (.slice none 0 0) [] ∧ RdAt w' b 65 n rest v' R ∧ v'.ownBlock = v.ownBlock ∧ Ot (fun k => k = b) w w' := by
  have HNS : Hid (∀ w1, Ot (fun k => k = b) w w1 → RdAt w1 b 65 n rest v (x1 :: x2 :: R) → Calls Tryz.prog 45 #[.pointer (some ⟨b, 0, none⟩), .int .i64 2] w1 fun e w' => ∃ u v', e = .returned (.tuple #[u, .nilIface]) ∧ RdAt w' b 65 n rest v' R ∧ v'.ownBlock = v.ownBlock ∧ Seg w' 3 1 u 2 [.int .i64 P, .int .i64 Rm] ∧ (∀ k, u.ownBlock = some k → w1.heap.size ≤ k) ∧ Ot (fun k => k = b) w1 w') := by
    intro w1 ho hr
    refine (numbers_yes (L := [x1, x2]) w1 hr (fun w' h' => hB w' (ho.trans h')) ?_ (by simp)).mono ?_
    · intro x hx
      simp at hx
      rcases hx with rfl | rfl
      · exact ⟨by rw [h1]; rfl, hl1⟩
      · exact ⟨by rw [h2]; rfl, hl2⟩
    · rintro e w' ⟨u, v', rfl, hr', hv', hs', hn', ho'⟩
      simp only [numsL, List.map, h1, h2, Option.getD, List.length_cons, List.length_nil] at hs'
      exact ⟨u, v', rfl, hr', hv', hs', hn', ho'⟩
  have H : Hid (RdAt w b 65 n rest v (x1 :: x2 :: R)) := h
  have hb := h.lt
  clear h hB h1 h2 hl1 hl2
  go_enter Tryz.func31, Tryz.ntmps31
  go_wp2_with (go_at_call 45; refine (HNS.out _ ?_ ?_).mono ?_; exact (Ot.refl _ _).alloc _; exact H.out.below (below_alloc_ (Below.refl _ _) _); rintro e w1 ⟨u, v', rfl, hr1, hv1, hs1, hn1, ho1⟩)
  obtain ⟨g, off, cap, rfl, hg1, hg2, hg3, hgc⟩ := hs1.some (by decide)
  have c0 : w1.cell? ⟨g, off, none⟩ = some (.int .i64 P) := hgc 0 _ rfl
  have c1 : w1.cell? ⟨g, off + 1, none⟩ = some (.int .i64 Rm) := hgc 1 _ rfl
  have hbx : w1.heap[w.heap.size]? = some (.cells #[.string ⟨f.1.toArray⟩, .int .i64 f.2] 60 (0, 0)) := (ho1.block w.heap.size (by simp) (by omega)).trans (new_block _ _)
  have b0 : w1.cell? ⟨w.heap.size, 0, none⟩ = some (.string ⟨f.1.toArray⟩) := by simp [World.cell?, hbx]
  have b1 : w1.cell? ⟨w.heap.size, 1, none⟩ = some (.int .i64 f.2) := by simp [World.cell?, hbx]
  have hbl := lt_of_block hbx
  have HR1 : Hid (RdAt w1 b 65 n rest v' R) := hr1
  have HV1 : Hid (v'.ownBlock = v.ownBlock) := hv1
  have HO1 : Hid (Ot (fun k => k = b) w w1) := ((Ot.refl _ _).alloc _).trans ho1
  have HBX : Hid (w1.heap[w.heap.size]? = some (.cells #[.string ⟨f.1.toArray⟩, .int .i64 f.2] 60 (0, 0))) := hbx
  have HNF : Hid (∀ w2, Calls Tryz.prog 27 #[.int .i64 P, .int .i64 Rm, .bool (f.1 == [104, 101, 97, 100])] w2 fun e w' => e = .returned (.tuple #[.pointer (some ⟨w2.heap.size, 0, none⟩), .nilIface]) ∧ LAt w' w2.heap.size 110 (frest P Rm (f.1 == headB) []) (.slice none 0 0) [] ∧ Below w2.heap.size w2 w') := fun w2 => (newFifo_yes P Rm (f.1 == headB) w2 hP.1 hP.2 hR.1 hR.2).mono fun e w' ⟨h1, h2, h3⟩ => ⟨h1, h2, by rw [h3]; exact below_alloc_ (Below.refl _ _) _⟩
  clear hs1 hgc hbx hr1 hv1 ho1 hn1 hP hR HNS
  go_cut [8, 7] (fun qv ev wx => ev = .nilIface ∧ qv = .pointer (some ⟨w1.heap.size, 0, none⟩) ∧ LAt wx w1.heap.size 110 (frest P Rm (f.1 == headB) []) (.slice none 0 0) [] ∧ Below w1.heap.size w1 wx)
  case first =>
    go_region_with (go_at_call 27; refine (HNF.out _).mono ?_; rintro e w2 ⟨rfl, hl2, hb2⟩)
    all_goals go_wp2_with fail
    all_goals go_meet
    all_goals exact ⟨rfl, rfl, hl2, ⟨hb2.os, hb2.tape, hb2.output, hb2.size, hb2.block⟩⟩
  case rest =>
  obtain ⟨rfl, rfl, hlc, hbc⟩ := hcut
  clear b0 b1 c0 c1
  generalize wc = w2 at *
  have hbx : w2.heap[w.heap.size]? = some (.cells #[.string ⟨f.1.toArray⟩, .int .i64 f.2] 60 (0, 0)) := (hbc.block _ hbl).trans HBX.out
  have b0 : w2.cell? ⟨w.heap.size, 0, none⟩ = some (.string ⟨f.1.toArray⟩) := by simp [World.cell?, hbx]
  have b1 : w2.cell? ⟨w.heap.size, 1, none⟩ = some (.int .i64 f.2) := by simp [World.cell?, hbx]
  have hbl2 := lt_of_block hbx
  have HLC : Hid (LAt w2 w1.heap.size 110 (frest P Rm (f.1 == headB) []) (.slice none 0 0) []) := hlc
  have HBC : Hid (Below w1.heap.size w1 w2) := hbc
  clear hbx hlc hbc
  go_wp2_with (go_at_call 46; refine (made_yes f _ _).mono ?_; rintro e w3 ⟨rfl, hb3⟩)
  go_ret2
  exact ⟨w1.heap.size, v', rfl, HO1.out.size, HLC.out.below hb3, (HR1.out.below HBC.out).below hb3, HV1.out, (HO1.out.trans (Ot.of_below HBC.out)).trans (Ot.of_below hb3)⟩
end Go.Proofs.YtfakjedolecdcaaGreatDoor
namespace Go.Proofs.YtfakjedolecdcaaGreatDoor
open Go.RowKit Go.Extern.Stop Go.Stop Go.Extern

section
variable {w w' : World} {b : Nat} {T : TypeId} {n : Nat} {tv : Value} {k : Int} {v : Value} {L : List (List UInt8 × Nat)}
theorem RdAt.begun (h : RdAt w b T n [tv, .int .i64 k] v L) : w.cell? ⟨b, 4, none⟩ = some (.int .i64 k) ∧ w.frozen? ⟨b, 4, none⟩ = false := by
  have hb := h.blk
  constructor <;> simp [World.cell?, World.frozen?, hb]
theorem RdAt.begin_ (h : RdAt w b T n [tv, .int .i64 k] v L) (j : Int) : RdAt (w.setCell ⟨b, 4, none⟩ (.int .i64 j)) b T n [tv, .int .i64 j] v L :=
  ⟨by rw [heap_setCell_here h.blk _]; simp, h.row.setCell (p := ⟨b, 4, none⟩) h.ne _, h.ne⟩
end
/-- What a Fifo by its text is. -/
def FifoT (w w' : World) (b n : Nat) (rest : List Value) (v : Value) (P Rm : Int) (hd : Bool) (R : List (List UInt8 × Nat)) (e : Ending) : Prop :=
  ∃ q v', e = .returned (.tuple #[.iface 86 (.pointer (some ⟨q, 0, none⟩)), .nilIface]) ∧ w.heap.size ≤ q ∧ LAt w' q 110 (frest P Rm hd []) (.slice none 0 0) [] ∧ RdAt w' b 65 n rest v' R ∧ v'.ownBlock = v.ownBlock ∧ Ot (fun k => k = b) w w'
set_option maxHeartbeats 4000000 in
theorem queue_fifo {b : Nat} {n : Nat} {tv : Value} {k ar : Int} {v : Value} {f x1 x2 : List UInt8 × Nat} {R : List (List UInt8 × Nat)} (P Rm : Int) (w : World) (h : RdAt w b 65 n [tv, .int .i64 k] v (f :: x1 :: x2 :: R)) (hB : ∀ w', Ot (fun k => k = b) w w' → Glob w') (hf : (f.1 == fifoB) = true ∨ (f.1 == fifoB) = false ∧ (f.1 == headB) = true) (h1 : numL x1.1 = some P) (h2 : numL x2.1 = some Rm) (hl1 : x1.1.length ≤ 2000) (hl2 : x2.1.length ≤ 2000) (hP : 0 ≤ P ∧ P ≤ 1000000) (hR : 0 ≤ Rm ∧ Rm ≤ 1000000) (hk : 0 ≤ k ∧ k ≤ 19) (ha : 0 ≤ ar ∧ ar ≤ 7) :
    Calls Tryz.prog 19 #[.pointer (some ⟨b, 0, none⟩), .int .i64 ar] w fun e w' => FifoT w w' b n [tv, .int .i64 (k + 1)] v P Rm (f.1 == headB) R e := by
  have HNX : Hid (Calls Tryz.prog 20 #[.pointer (some ⟨b, 0, none⟩)] w fun e w' => e = .returned (.agg #[.string ⟨f.1.toArray⟩, .int .i64 f.2]) ∧ ∃ v2, RdAt w' b 65 n [tv, .int .i64 k] v2 (x1 :: x2 :: R) ∧ v2.ownBlock = v.ownBlock ∧ Ot (fun k => k = b) w w') := by
    refine (sgnext_any w h).mono ?_
    rintro e w' ⟨rfl, v2, h1, h2, h3⟩
    exact ⟨rfl, v2, h1, h2, h3⟩
  have HFF : Hid (∀ w1 v2, Ot (fun k => k = b) w w1 → RdAt w1 b 65 n [tv, .int .i64 (k + 1)] v2 (x1 :: x2 :: R) → v2.ownBlock = v.ownBlock → Calls Tryz.prog 31 #[.pointer (some ⟨b, 0, none⟩), .agg #[.string ⟨f.1.toArray⟩, .int .i64 f.2]] w1 fun e w' => FifoT w w' b n [tv, .int .i64 (k + 1)] v P Rm (f.1 == headB) R e) := by
    intro w1 v2 ho hr hv
    refine (fifo_yes f P Rm w1 hr (fun w' h' => hB w' (ho.trans h')) h1 h2 hl1 hl2 hP hR).mono ?_
    rintro e w' ⟨q, v', rfl, hq, hl', hr', hv', ho'⟩
    exact ⟨q, v', rfl, Nat.le_trans ho.size hq, hl', hr', hv'.trans hv, ho.trans ho'⟩
  have hb := h.lt
  have a1 : decide ((7 : Int) < ar) = false := by simp; omega
  have a2 : decide ((20 : Int) < k + 1) = false := by simp; omega
  have a3 : IntKind.i64.wrap (k + 1) = k + 1 := by rw [IntKind.wrap_i64]; omega
  clear h hB h1 h2 hl1 hl2 hP hR
  unfold fifoB headB at hf
  rcases hf with o1 | ⟨o1, o2⟩
  all_goals
    go_enter Tryz.func19, Tryz.ntmps19
    go_wp2_with (go_at_call 20; refine HNX.out.mono ?_; rintro e w1 ⟨rfl, v2, hr1, hv1, ho1⟩; have HR1 : Hid (RdAt w1 b 65 n [tv, .int .i64 k] v2 (x1 :: x2 :: R)) := hr1; have HV1 : Hid (v2.ownBlock = v.ownBlock) := hv1; have HO1 : Hid (Ot (fun k => k = b) w w1) := ho1; obtain ⟨r4, f4⟩ := hr1.begun; have hl1 := hr1.lt; clear hr1 hv1 ho1)
  all_goals
    refine (HFF.out _ v2 ((HO1.out.setCell (p := ⟨b, 4, none⟩) (Or.inl rfl) _).alloc _) ((HR1.out.begin_ (k + 1)).below (below_alloc_ (Below.refl _ _) _)) HV1.out).mono ?_
    rintro e w2 ⟨q, v', rfl, hr⟩
    go_wp2
    go_ret2
    exact ⟨q, v', rfl, hr⟩
end Go.Proofs.YtfakjedolecdcaaGreatDoor
