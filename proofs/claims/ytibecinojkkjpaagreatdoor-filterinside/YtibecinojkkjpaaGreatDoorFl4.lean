/-
  package filter: what is asked of a field. Conditions: signs have 2000 bytes at most; what the program lays is laid.
-/
import Derived.Test.YtibecinojkkjpaaGreatDoorFl3
namespace Go.Proofs.YtibecinojkkjpaaGreatDoor
open Go.RowKit Go.Extern.Stop Go.Stop Go.Extern

theorem fnext_any {b n : Nat} {v : Value} {L : List (List UInt8 × Nat)} (w : World) (h : RdAt w b 54 n [] v L) :
    Calls Tryz.prog 17 #[.pointer (some ⟨b, 0, none⟩)] w fun e w' => ∃ (p : Int) (v' : Value), e = .returned (.agg #[.string ⟨(hdW L).toArray⟩, .int .i64 p]) ∧ RdAt w' b 54 n [] v' L.tail ∧ v'.ownBlock = v.ownBlock ∧ Ot (fun k => k = b) w w' ∧ p = (hdP n L : Nat) := by
  refine (sgnext_any w h).mono ?_
  rintro e w' ⟨rfl, v2, h1, h2, h3⟩
  refine ⟨(L.headD (endS n)).2, v2, ?_, h1, h2, h3, by rw [hdP_end]⟩
  rw [← hdW_end L n]; rfl
theorem tail_mem {L : List (List UInt8 × Nat)} : ∀ y ∈ L.tail, y ∈ L := fun _ hy => List.mem_of_mem_tail hy
set_option maxHeartbeats 2000000 in
theorem has_any {b n f d : Nat} {v : Value} {L : List (List UInt8 × Nat)} (w : World) (h : RdAt w b 54 n [] v L) (hB : ∀ w', Ot (fun k => k = b) w w' → GlobF w') (hs : shortL L) (hf : f < 5) :
    Calls Tryz.prog 43 #[.pointer (some ⟨b, 0, none⟩), .int .i64 f] w fun e w' => RdP w w' b n v L (d + 1) (match numF (hdW L) with | some q => .ok (⟨2, f, q, 0, []⟩, L.tail) | none => .error (numC (hdW L), hdP n L)) e := by
  have hb := h.lt
  have HNX : Hid (Calls Tryz.prog 17 #[.pointer (some ⟨b, 0, none⟩)] w fun e w' => ∃ (p : Int) (v' : Value), e = .returned (.agg #[.string ⟨(hdW L).toArray⟩, .int .i64 p]) ∧ RdAt w' b 54 n [] v' L.tail ∧ v'.ownBlock = v.ownBlock ∧ Ot (fun k => k = b) w w' ∧ p = (hdP n L : Nat)) := fnext_any w h
  have HNU : Hid (∀ w1, Ot (fun k => k = b) w w1 → Calls Tryz.prog 45 #[.string ⟨(hdW L).toArray⟩] w1 fun e w' => ∃ c : Int, e = .returned (.tuple #[.int .i64 ((numF (hdW L)).getD 0), .int .i64 c]) ∧ (c == 0) = (numF (hdW L)).isSome ∧ (numF (hdW L) = none → c = numC (hdW L)) ∧ Below w1.heap.size w1 w') := fun w1 h1 => fnum_any (hdW L) w1 hs.hd (hB w1 h1).num
  have HBD : Hid (∀ q, numF (hdW L) = some q → 0 ≤ q ∧ q ≤ 1000000000) := fun q => numF_bd
  clear h hB hs
  generalize hdW L = x at *
  cases hq : numF x with
  | none =>
    rw [hq] at HNU
    clear hq
    go_enter Tryz.func43, Tryz.ntmps43
    go_wp2_with fail
    refine HNX.out.mono ?_
    rintro e w1 ⟨p, v1, rfl, hr1, hv1, ho1, hp1⟩
    have HP1 : Hid (p = ((hdP n L : Nat) : Int)) := hp1
    clear hp1
    go_wp2_with fail
    refine (HNU.out _ (ho1.alloc _)).mono ?_
    rintro e w2 ⟨c, rfl, hc, hcn, hb2⟩
    have HCN : Hid (_ → c = numC x) := hcn
    clear hcn
    have hbA := below_alloc_ (Below.refl w1.heap.size w1) (.cells #[.string ⟨x.toArray⟩, .int .i64 p] 49)
    have k2 : w2.heap[w1.heap.size]? = some (.cells #[.string ⟨x.toArray⟩, .int .i64 p] 49 (0, 0)) := (hb2.block w1.heap.size (by simp)).trans (new_block _ _)
    have k0 : w2.cell? ⟨w1.heap.size, 0, none⟩ = some (.string ⟨x.toArray⟩) := by simp [World.cell?, k2]
    have k1 : w2.cell? ⟨w1.heap.size, 1, none⟩ = some (.int .i64 p) := by simp [World.cell?, k2]
    have HR : Hid (RdAt w2 b 54 n [] v1 L.tail) := (hr1.below hbA).below hb2
    have HO : Hid (Ot (fun k => k = b) w w2) := (ho1.alloc _).trans (Ot.of_below hb2)
    have o1 : (c == 0) = false := hc
    clear hr1 ho1 hb2 hbA k2 hc
    go_wp2_with fail
    refine (wrong_any _ _ _ _).mono ?_
    rintro e w3 ⟨B, rfl, hBk, hBn, hb3⟩
    go_wp2
    go_ret2
    exact ⟨v1, L.tail, HR.out.below hb3, hv1, HO.out.trans (Ot.of_below hb3), tail_mem, Or.inr ⟨_, _, B, rfl, rfl, by rw [hBk, HCN.out (by first | rfl | trivial), HP1.out], Nat.le_trans HO.out.size hBn⟩⟩
  | some q =>
    have hbd := HBD.out q hq
    rw [hq] at HNU
    clear hq
    go_enter Tryz.func43, Tryz.ntmps43
    go_wp2_with fail
    refine HNX.out.mono ?_
    rintro e w1 ⟨p, v1, rfl, hr1, hv1, ho1, hp1⟩
    have HP1 : Hid (p = ((hdP n L : Nat) : Int)) := hp1
    clear hp1
    go_wp2_with fail
    refine (HNU.out _ (ho1.alloc _)).mono ?_
    rintro e w2 ⟨c, rfl, hc, hcn, hb2⟩
    have HCN : Hid (_ → c = numC x) := hcn
    clear hcn
    have hbA := below_alloc_ (Below.refl w1.heap.size w1) (.cells #[.string ⟨x.toArray⟩, .int .i64 p] 49)
    have HR : Hid (RdAt w2 b 54 n [] v1 L.tail) := (hr1.below hbA).below hb2
    have HO : Hid (Ot (fun k => k = b) w w2) := (ho1.alloc _).trans (Ot.of_below hb2)
    have o1 : (c == 0) = true := hc
    clear hr1 ho1 hb2 hbA hc
    go_wp2
    go_ret2
    exact ⟨v1, L.tail, HR.out, hv1, HO.out, tail_mem, Or.inl ⟨_, _, rfl, rfl, Or.inr (Or.inr (Or.inl ⟨f, q, rfl, rfl, hf, hbd.1, hbd.2⟩))⟩⟩
end Go.Proofs.YtibecinojkkjpaaGreatDoor
