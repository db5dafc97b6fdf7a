/-
  The law's fact that a text makes bands. Conditions: strconv's table and errors are laid.
  planted is true. Conditions: strconv's table and errors are laid.
-/
import Derived.Test.YtfakjedolecdcaaGreatDoorGi
import Derived.Test.YtfakjedolecdcaaGreatDoorPy
namespace Go.Proofs.YtfakjedolecdcaaGreatDoor
open Go.RowKit Go.Extern.Stop Go.Stop Go.Extern

def textP : ByteArray := ⟨#[98, 97, 110, 100, 115, 32, 40, 102, 105, 102, 111, 32, 49, 32, 49, 48, 44, 32, 104, 101, 97, 100, 32, 50, 32, 50, 48, 41]⟩
def spP : List FSp := [⟨(fifoB, 7), ([49], 12), ([49, 48], 14), ([44], 16), 1, 10⟩, ⟨(headB, 18), ([50], 23), ([50, 48], 25), ([41], 27), 2, 20⟩]
theorem signsP : signsL [32, 40, 41, 44] textP.data.toList 0 = (bandsB, 0) :: ([40], 6) :: bsigns spP := by rfl
theorem num1 : numL [49] = some 1 := by kernel_rfl
theorem num10 : numL [49, 48] = some 10 := by kernel_rfl
theorem num2 : numL [50] = some 2 := by kernel_rfl
theorem num20 : numL [50, 48] = some 20 := by kernel_rfl
theorem num1000 : numL [49, 48, 48, 48] = some 1000 := by kernel_rfl
theorem num1e6 : numL [49, 48, 48, 48, 48, 48, 48] = some 1000000 := by kernel_rfl
theorem fitsP : Fits spP 2 := by
  refine ⟨rfl, by decide, by decide, ?_⟩
  intro i s hs
  match i with
  | 0 =>
    simp [spP] at hs
    subst hs
    exact ⟨⟨Or.inl rfl, num1, num10, by decide, by decide, by decide, by decide⟩, by decide, by decide⟩
  | 1 =>
    simp [spP] at hs
    subst hs
    exact ⟨⟨Or.inr ⟨rfl, rfl⟩, num2, num20, by decide, by decide, by decide, by decide⟩, by decide, by decide⟩
  | i + 2 => simp [spP] at hs
theorem asciiP : ascii textP.data.toList := by
  intro j b hj
  have h := List.mem_of_getElem? hj
  revert h
  revert b
  show ∀ b, _ → b ∈ textP.data.toList → _
  intro b _ h
  simp [textP] at h
  rcases h with rfl | rfl | rfl | rfl | rfl | rfl | rfl | rfl | rfl | rfl | rfl | rfl | rfl | rfl | rfl | rfl | rfl | rfl | rfl | rfl | rfl | rfl | rfl | rfl | rfl | rfl | rfl | rfl <;> decide
def stepsP : List Stp := [⟨0, 0, 0, 5, 0, 3, 0⟩, ⟨0, 0, 0, 5, 0, 0, 0⟩, ⟨1, 0, 0, 0, 0, 0, 0⟩]
theorem playP (bs : Nat → Nat) (B g goff gcap : Nat) : ∃ a b c d e, playFrom (BandsM (FQs spP bs) 2 B g goff gcap) (fun _ => ([] : List Hd)) 0 (timesL 0 stepsP) = [a, b, ⟨1, c, d, 1, e, []⟩] := ⟨_, _, _, _, _, by rfl⟩
end Go.Proofs.YtfakjedolecdcaaGreatDoor
namespace Go.Proofs.YtfakjedolecdcaaGreatDoor
open Go.RowKit Go.Extern.Stop Go.Stop Go.Extern

set_option maxHeartbeats 2000000 in
theorem planted_true (w : World) (hG : Glob w) : Calls Tryz.prog 8 #[] w fun e w' => e = .returned (.bool true) ∧ Below w.heap.size w w' := by
  have HP : Hid (Calls Tryz.prog 7 #[.string ⟨#[98, 97, 110, 100, 115, 32, 40, 102, 105, 102, 111, 32, 49, 32, 49, 48, 44, 32, 104, 101, 97, 100, 32, 50, 32, 50, 48, 41]⟩, .slice none 0 0] w fun e w' => ∃ B g goff gcap bs, e = .returned (.tuple #[.iface 137 (.pointer (some ⟨B, 0, none⟩)), .nilIface]) ∧ BAt (FQs spP bs) 2 B g goff gcap w' (fun i k => k = bs i) (fun _ => ([] : List Hd)) ∧ (∀ k, foot 2 B g (fun i k => k = bs i) k → w.heap.size ≤ k) ∧ Below w.heap.size w w') :=
    parse_bands textP w hG (by decide) signsP rfl rfl fitsP
  clear hG
  go_enter Tryz.func8, Tryz.ntmps8
  go_wp2_with (first | (go_at_call 7; refine HP.out.mono ?_; rintro e w1 ⟨B, g, goff, gcap, bs, rfl, hba, hft, hb1⟩) | (go_at_call 10; fail))
  have hS := FQs_small spP bs (N := 2) rfl (by decide) (by decide) (fun i s h => (fitsP.each i s h).1)
  have hbw : Below w1.heap.size w1 (w1.alloc (.cells (flt Stp.cs stepsP).toArray 70)) := below_alloc_ (Below.refl _ _) _
  have hba2 : BAt (FQs spP bs) 2 B g goff gcap (w1.alloc (.cells (flt Stp.cs stepsP).toArray 70)) (fun i k => k = bs i) (fun _ => ([] : List Hd)) := by
    refine BAt.kept hS.fine hba (fun k hk => hbw.block k ?_)
    rcases hk with rfl | rfl | ⟨i, hi, rfl⟩
    · exact lt_of_block hba.blk
    · exact hba.obl
    · obtain ⟨v, h, _⟩ := hba.each i hi
      exact h.lt
  refine (play_any (BandsM (FQs spP bs) 2 B g goff gcap) (bandsM_fine hS) (foot 2 B g (fun i k => k = bs i)) (fun _ => ([] : List Hd)) (some ⟨w1.heap.size, 0, none⟩) 3 stepsP (w1.alloc (.cells (flt Stp.cs stepsP).toArray 70)) ?_ (by decide) ⟨_, hba2, fun k => Iff.rfl⟩ (fun i _ => ⟨Nat.le_refl _, by simp⟩)).mono ?_
  · refine Or.inr ⟨w1.heap.size, 0, rfl, by simp, fun j u hj => ?_⟩
    have := news_of (new_block_ (w := w1) (o := .cells (flt Stp.cs stepsP).toArray 70) (n := w1.heap.size) rfl) j u hj
    rw [Addr.add_lit] at this
    exact this
  rintro e w3 ⟨u, us, F, rfl, hsn, hot⟩
  obtain ⟨pa, pb, pc, pd, pe, hpl⟩ := playP bs B g goff gcap
  rw [hpl] at hsn
  have hlen := hsn.len
  obtain ⟨u0, u1, u2, rfl⟩ : ∃ u0 u1 u2, us = [u0, u1, u2] := by
    match us, hlen with
    | [a, b, c], _ => exact ⟨a, b, c, rfl⟩
  obtain ⟨b, off, cap, rfl, _, _, hb, hcs⟩ := hsn.row.some (by simp)
  have a0 : w3.cell? ⟨b, off + 12, none⟩ = some (.int .i64 1) := hcs 12 _ rfl
  have a3 : w3.cell? ⟨b, off + 12 + 3, none⟩ = some (.int .i64 1) := hcs 15 _ rfl
  have hfin : Below w.heap.size w w3 := (hb1.alloc hb1.size _).trans (hot.below (by simp; have := hb1.size; omega) hft)
  have HF : Hid (Below w.heap.size w w3) := hfin
  clear hsn hcs hot hba hba2 hfin hpl hft hbw hS
  go_wp2
  go_ret
  exact ⟨rfl, HF.out⟩
end Go.Proofs.YtfakjedolecdcaaGreatDoor
