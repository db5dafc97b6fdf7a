/-
  package plant: a queue that begins with fifo or head. Conditions: as for a Fifo; not too many queues have begun, nor stand around.
-/
import Derived.Test.YticplgdfgckicaaGreatDoorPn2
namespace Go.Proofs.YticplgdfgckicaaGreatDoor
open Go.RowKit Go.Extern.Stop Go.Stop Go.Extern

section
variable {w w' : World} {b : Nat} {T : TypeId} {n : Nat} {tv : Value} {k : Int} {v : Value} {L : List (List UInt8 × Nat)}
theorem RdAt.begun (h : RdAt w b T n [tv, .int .i64 k] v L) : w.cell? ⟨b, 4, none⟩ = some (.int .i64 k) ∧ w.frozen? ⟨b, 4, none⟩ = false := by
  have hb := h.blk
  constructor <;> simp [World.cell?, World.frozen?, hb]
theorem RdAt.begin_ (h : RdAt w b T n [tv, .int .i64 k] v L) (j : Int) : RdAt (w.setCell ⟨b, 4, none⟩ (.int .i64 j)) b T n [tv, .int .i64 j] v L :=
  ⟨by rw [heap_setCell_here h.blk _]; simp, h.row.setCell (p := ⟨b, 4, none⟩) h.ne _, h.ne⟩
end
/-- What a Fifo by its text is. -/
def FifoT (w w' : World) (b n : Nat) (rest : List Value) (v : Value) (P Rm : Int) (hd : Bool) (R : List (List UInt8 × Nat)) (e : Ending) : Prop :=
  ∃ q v', e = .returned (.tuple #[.iface 52 (.pointer (some ⟨q, 0, none⟩)), .nilIface]) ∧ w.heap.size ≤ q ∧ LAt w' q 93 (frest P Rm hd []) (.slice none 0 0) [] ∧ RdAt w' b 73 n rest v' R ∧ v'.ownBlock = v.ownBlock ∧ Ot (fun k => k = b) w w'
set_option maxHeartbeats 4000000 in
theorem queue_fifo {b : Nat} {n : Nat} {tv : Value} {k ar : Int} {v : Value} {f x1 x2 : List UInt8 × Nat} {R : List (List UInt8 × Nat)} (P Rm : Int) (w : World) (h : RdAt w b 73 n [tv, .int .i64 k] v (f :: x1 :: x2 :: R)) (hB : ∀ w', Ot (fun k => k = b) w w' → Glob w') (hf : (f.1 == fifoB) = true ∨ (f.1 == fifoB) = false ∧ (f.1 == headB) = true) (h1 : numL x1.1 = some P) (h2 : numL x2.1 = some Rm) (hl1 : x1.1.length ≤ 2000) (hl2 : x2.1.length ≤ 2000) (hP : 0 ≤ P ∧ P ≤ 1000000) (hR : 0 ≤ Rm ∧ Rm ≤ 1000000) (hk : 0 ≤ k ∧ k ≤ 19) (ha : 0 ≤ ar ∧ ar ≤ 7) :
    Calls Tryz.prog 20 #[.pointer (some ⟨b, 0, none⟩), .int .i64 ar] w fun e w' => FifoT w w' b n [tv, .int .i64 (k + 1)] v P Rm (f.1 == headB) R e := by
  have HNX : Hid (Calls Tryz.prog 21 #[.pointer (some ⟨b, 0, none⟩)] w fun e w' => e = .returned (.agg #[.string ⟨f.1.toArray⟩, .int .i64 f.2]) ∧ ∃ v2, RdAt w' b 73 n [tv, .int .i64 k] v2 (x1 :: x2 :: R) ∧ v2.ownBlock = v.ownBlock ∧ Ot (fun k => k = b) w w') := by
    refine (sgnext_any w h).mono ?_
    rintro e w' ⟨rfl, v2, h1, h2, h3⟩
    exact ⟨rfl, v2, h1, h2, h3⟩
  have HFF : Hid (∀ w1 v2, Ot (fun k => k = b) w w1 → RdAt w1 b 73 n [tv, .int .i64 (k + 1)] v2 (x1 :: x2 :: R) → v2.ownBlock = v.ownBlock → Calls Tryz.prog 32 #[.pointer (some ⟨b, 0, none⟩), .agg #[.string ⟨f.1.toArray⟩, .int .i64 f.2]] w1 fun e w' => FifoT w w' b n [tv, .int .i64 (k + 1)] v P Rm (f.1 == headB) R e) := by
    intro w1 v2 ho hr hv
    refine (fifo_yes f P Rm w1 hr (fun w' h' => hB w' (ho.trans h')) h1 h2 hl1 hl2 hP hR).mono ?_
    rintro e w' ⟨q, v', rfl, hq, hl', hr', hv', ho'⟩
    exact ⟨q, v', rfl, Nat.le_trans ho.size hq, hl', hr', hv'.trans hv, ho.trans ho'⟩
  have hb := h.lt
  have a1 : decide ((7 : Int) < ar) = false := by simp; omega
  have a2 : decide ((20 : Int) < k + 1) = false := by simp; omega
  have a3 : IntKind.i64.wrap (k + 1) = k + 1 := by rw [IntKind.wrap_i64]; omega
  clear h hB h1 h2 hl1 hl2 hP hR
  unfold fifoB headB at hf
  rcases hf with o1 | ⟨o1, o2⟩
  all_goals
    go_enter Tryz.func20, Tryz.ntmps20
    go_wp2_with (go_at_call 21; refine HNX.out.mono ?_; rintro e w1 ⟨rfl, v2, hr1, hv1, ho1⟩; have HR1 : Hid (RdAt w1 b 73 n [tv, .int .i64 k] v2 (x1 :: x2 :: R)) := hr1; have HV1 : Hid (v2.ownBlock = v.ownBlock) := hv1; have HO1 : Hid (Ot (fun k => k = b) w w1) := ho1; obtain ⟨r4, f4⟩ := hr1.begun; have hl1 := hr1.lt; clear hr1 hv1 ho1)
  all_goals
    refine (HFF.out _ v2 ((HO1.out.setCell (p := ⟨b, 4, none⟩) (Or.inl rfl) _).alloc _) ((HR1.out.begin_ (k + 1)).below (below_alloc_ (Below.refl _ _) _)) HV1.out).mono ?_
    rintro e w2 ⟨q, v', rfl, hr⟩
    go_wp2
    go_ret2
    exact ⟨q, v', rfl, hr⟩
end Go.Proofs.YticplgdfgckicaaGreatDoor
