/-
  plant.Parse of a text that tells one Fifo. Conditions: the text is ASCII; its signs are three, and may be.
-/
import Derived.Test.YticplgdfgckicaaGreatDoorPn3
namespace Go.Proofs.YticplgdfgckicaaGreatDoor
open Go.RowKit Go.Extern.Stop Go.Stop Go.Extern

set_option maxHeartbeats 4000000 in
theorem parse_fifo {f x1 x2 : List UInt8 × Nat} (s : ByteArray) (P Rm : Int) (w : World) (hG : Glob w) (hs : s.size ≤ 2000) (hL : signsL [32, 40, 41, 44] s.data.toList 0 = [f, x1, x2]) (hf : (f.1 == fifoB) = true ∨ (f.1 == fifoB) = false ∧ (f.1 == headB) = true) (h1 : numL x1.1 = some P) (h2 : numL x2.1 = some Rm) (hl1 : x1.1.length ≤ 2000) (hl2 : x2.1.length ≤ 2000) (hP : 0 ≤ P ∧ P ≤ 1000000) (hR : 0 ≤ Rm ∧ Rm ≤ 1000000) :
    Calls Tryz.prog 13 #[.string s, .slice none 0 0] w fun e w' => ∃ q, e = .returned (.tuple #[.iface 52 (.pointer (some ⟨q, 0, none⟩)), .nilIface]) ∧ w.heap.size ≤ q ∧ LAt w' q 93 (frest P Rm (f.1 == headB) []) (.slice none 0 0) [] ∧ Below w.heap.size w w' := by
  have HRD : Hid (Calls Tryz.prog 19 #[.string s, .string ⟨#[40, 41, 44]⟩] w fun e w' => ∃ rv, e = .returned (.agg #[rv, .string ⟨#[]⟩, .int .i64 s.size]) ∧ Seg w' 68 2 rv 3 (flt sgc [f, x1, x2]) ∧ (∀ b, rv.ownBlock = some b → w.heap.size ≤ b) ∧ Below w.heap.size w w') := by
    refine (read_any s ⟨#[40, 41, 44]⟩ w hs (by decide) (by decide) ?_).mono ?_
    · intro j b hj
      match j with
      | 0 => simp at hj; subst hj; decide
      | 1 => simp at hj; subst hj; decide
      | 2 => simp at hj; subst hj; decide
      | j + 3 => simp at hj
    · rintro e w' ⟨rv, rfl, hsg, hn, hb⟩
      rw [show (32 :: (⟨#[40, 41, 44]⟩ : ByteArray).data.toList) = [32, 40, 41, 44] from rfl, hL] at hsg
      exact ⟨rv, rfl, hsg, hn, hb⟩
  have HQ : Hid (∀ w1 b v, w.heap.size ≤ b → Below w.heap.size w w1 → RdAt w1 b 73 s.size [.slice none 0 0, .int .i64 0] v [f, x1, x2] → Calls Tryz.prog 20 #[.pointer (some ⟨b, 0, none⟩), .int .i64 0] w1 fun e w' => FifoT w1 w' b s.size [.slice none 0 0, .int .i64 1] v P Rm (f.1 == headB) [] e) := by
    intro w1 b v hb hw hr
    refine queue_fifo P Rm w1 hr (fun w' h' => hG.below ?_) hf h1 h2 hl1 hl2 hP hR (by decide) (by decide)
    exact hw.trans (h'.below hw.size (fun k hk => by omega))
  have a1 : decide ((2000 : Int) < (s.size : Int)) = false := by simp; omega
  clear hG hs hL hf h1 h2 hl1 hl2 hP hR
  go_enter Tryz.func13, Tryz.ntmps13
  go_wp2_with (go_at_call 19; refine HRD.out.mono ?_; rintro e w1 ⟨rv, rfl, hsg, hn, hb1⟩; obtain ⟨rg, roff, rcap, rfl, _, _, _, _⟩ := hsg.some (by decide))
  have hrd : RdAt (w1.alloc (.cells #[.slice (some ⟨rg, roff, none⟩) 3 rcap, .string ⟨#[]⟩, .int .i64 s.size, .slice none 0 0, .int .i64 0] 73)) w1.heap.size 73 s.size [.slice none 0 0, .int .i64 0] (.slice (some ⟨rg, roff, none⟩) 3 rcap) [f, x1, x2] :=
    ⟨new_block _ _, hsg.alloc _, fun e => by have := hsg.lt e; omega⟩
  refine (HQ.out _ _ _ hb1.size (hb1.alloc hb1.size _) hrd).mono ?_
  rintro e w2 ⟨q, v', rfl, hq, hl2, hr2, hv2, ho2⟩
  have hbl := hr2.lt
  have HL2 : Hid (LAt w2 q 93 (frest P Rm (f.1 == headB) []) (.slice none 0 0) []) := hl2
  have HNX : Hid (Calls Tryz.prog 21 #[.pointer (some ⟨w1.heap.size, 0, none⟩)] w2 fun e w' => e = .returned (.agg #[.string ⟨#[]⟩, .int .i64 s.size]) ∧ Ot (fun k => k = w1.heap.size) w2 w') := by
    refine (sgnext_any w2 hr2).mono ?_
    rintro e w' ⟨rfl, _, _, _, h⟩
    exact ⟨rfl, h⟩
  have HB2 : Hid (Below w.heap.size w w2) := (hb1.alloc hb1.size _).trans (ho2.below (by simp; have := hb1.size; omega) (fun k hk => by have := hb1.size; omega))
  have hqn : w.heap.size ≤ q ∧ w1.heap.size < q := by have := hb1.size; simp at hq; omega
  have hw1 := hb1.size
  clear hrd hsg hn hb1 hl2 hr2 hv2 ho2 HQ HRD
  go_wp2_with (first | (go_at_call 21; refine HNX.out.mono ?_; rintro e w3 ⟨rfl, ho3⟩) | (go_at_call 22; refine (end_any ([], s.size) _).mono ?_; rintro e w4 ⟨rfl, hb4⟩))
  go_ret2
  have hb3 : Below w.heap.size w2 w3 := ho3.below HB2.out.size (fun k hk => by omega)
  refine ⟨q, rfl, hqn.1, ((HL2.out.ot ho3 (by omega) (fun k hk => by simp [Value.ownBlock] at hk)).below (below_alloc_ (Below.refl _ _) _)).below hb4, (HB2.out.trans hb3).trans ?_⟩
  exact ((Below.refl _ _).alloc (HB2.out.trans hb3).size _).trans (hb4.mono (by simp; have := (HB2.out.trans hb3).size; omega))
end Go.Proofs.YticplgdfgckicaaGreatDoor
