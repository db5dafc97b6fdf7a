/-
  package filter: a test of a field is read. Conditions: signs have 2000 bytes at most; what the program lays is laid.
-/
import Derived.Test.YtibecinojkkjpaaGreatDoorFl4
namespace Go.Proofs.YtibecinojkkjpaaGreatDoor
open Go.RowKit Go.Extern.Stop Go.Stop Go.Extern

/-- What was read later is what was read. -/
theorem RdP.after {w w1 w' : World} {b n d : Nat} {v v1 : Value} {L L1 : List (List UInt8 × Nat)} {res : Rd} {e : Ending} (h : RdP w1 w' b n v1 L1 d res e) (ho : Ot (fun k => k = b) w w1) (hv : v1.ownBlock = v.ownBlock) (hL : ∀ y ∈ L1, y ∈ L) : RdP w w' b n v L d res e := by
  obtain ⟨v', L', h1, h2, h3, h4, h5⟩ := h
  refine ⟨v', L', h1, h2.trans hv, ho.trans h3, fun y hy => hL y (h4 y hy), ?_⟩
  rcases h5 with ⟨t, fv, e1, e2, e3⟩ | ⟨c, p, B, e1, e2, e3, e4⟩
  · exact Or.inl ⟨t, fv, e1, e2, e3.sub fun k hk => Nat.le_trans ho.size hk⟩
  · exact Or.inr ⟨c, p, B, e1, e2, e3, Nat.le_trans ho.size e4⟩
theorem cut_le (l s : List UInt8) : (Lib.cut l s).1.length ≤ l.length ∧ (Lib.cut l s).2.1.length ≤ l.length := by
  unfold Lib.cut
  split
  · simp only [List.length_take, List.length_drop]; omega
  · simp
theorem cutB_le (l : List UInt8) : (cutB l).length ≤ l.length := by
  have := cut_le l [46, 46]
  unfold cutB
  split <;> omega
theorem fcut_any (x : List UInt8) (w : World) (hx : x.length ≤ 2000) (hG : GlobF w) :
    Calls Tryz.prog 44 #[.string ⟨x.toArray⟩, .string ⟨#[46, 46]⟩] w fun e w' => e = .returned (.tuple #[.string ⟨(cutA x).toArray⟩, .string ⟨(Lib.cut x [46, 46]).2.1.toArray⟩, .bool (Lib.cut x [46, 46]).2.2]) ∧ Below w.heap.size w w' := by
  obtain ⟨m, hm⟩ := hG.ml
  refine (Tryz.strings_Cut ⟨x.toArray⟩ ⟨#[46, 46]⟩ m w (by simp [ByteArray.size]; omega) hm).mono ?_
  rintro e w' ⟨rfl, k, rfl⟩
  exact ⟨rfl, (Below.refl _ _).trans ⟨rfl, rfl, rfl, Nat.le_refl _, fun _ _ => rfl⟩⟩
theorem tst_has {n f : Nat} {L : List (List UInt8 × Nat)} (h : (hdW L == [104, 97, 115]) = true) : tstF n f L = (match numF (hdW L.tail) with | some q => .ok (⟨2, f, q, 0, []⟩, L.tail.tail) | none => .error (numC (hdW L.tail), hdP n L.tail)) := by unfold tstF; rw [if_pos h]; cases numF (hdW L.tail) <;> rfl
theorem tst_no {n f : Nat} {L : List (List UInt8 × Nat)} (h : (hdW L == [104, 97, 115]) = false) : tstF n f L = (match testF f (hdW L) with | .ok t => .ok (t, L.tail) | .error c => .error (c, hdP n L)) := by unfold tstF; rw [if_neg (by rw [h]; decide)]; cases testF f (hdW L) <;> rfl
set_option maxHeartbeats 4000000 in
theorem test_any {b n f d : Nat} {v : Value} {L : List (List UInt8 × Nat)} (w : World) (h : RdAt w b 54 n [] v L) (hB : ∀ w', Ot (fun k => k = b) w w' → GlobF w') (hs : shortL L) (hf : f < 5) :
    Calls Tryz.prog 32 #[.pointer (some ⟨b, 0, none⟩), .int .i64 f] w fun e w' => RdP w w' b n v L (d + 1) (tstF n f L) e := by
  have hb := h.lt
  have HNX : Hid (Calls Tryz.prog 17 #[.pointer (some ⟨b, 0, none⟩)] w fun e w' => ∃ (p : Int) (v' : Value), e = .returned (.agg #[.string ⟨(hdW L).toArray⟩, .int .i64 p]) ∧ RdAt w' b 54 n [] v' L.tail ∧ v'.ownBlock = v.ownBlock ∧ Ot (fun k => k = b) w w' ∧ p = (hdP n L : Nat)) := fnext_any w h
  have HHS : Hid (∀ w1 v1, Ot (fun k => k = b) w w1 → RdAt w1 b 54 n [] v1 L.tail → Calls Tryz.prog 43 #[.pointer (some ⟨b, 0, none⟩), .int .i64 f] w1 fun e w' => RdP w1 w' b n v1 L.tail (d + 1) (match numF (hdW L.tail) with | some q => .ok (⟨2, f, q, 0, []⟩, L.tail.tail) | none => .error (numC (hdW L.tail), hdP n L.tail)) e) := fun w1 v1 h1 h2 => has_any w1 h2 (fun w' h' => hB w' (h1.trans h')) hs.tl hf
  have hxl := hs.hd
  have HCU : Hid (∀ w1, Ot (fun k => k = b) w w1 → Calls Tryz.prog 44 #[.string ⟨(hdW L).toArray⟩, .string ⟨#[46, 46]⟩] w1 fun e w' => e = .returned (.tuple #[.string ⟨(cutA (hdW L)).toArray⟩, .string ⟨(Lib.cut (hdW L) [46, 46]).2.1.toArray⟩, .bool (Lib.cut (hdW L) [46, 46]).2.2]) ∧ Below w1.heap.size w1 w') := fun w1 h1 => fcut_any _ w1 hxl (hB w1 h1)
  have HNU : Hid (∀ (l : List UInt8) (w1 : World), l.length ≤ 2000 → Ot (fun k => k = b) w w1 → Calls Tryz.prog 45 #[.string ⟨l.toArray⟩] w1 fun e w' => ∃ c : Int, e = .returned (.tuple #[.int .i64 ((numF l).getD 0), .int .i64 c]) ∧ (c == 0) = (numF l).isSome ∧ (numF l = none → c = numC l) ∧ Below w1.heap.size w1 w') := fun l w1 hl h1 => fnum_any l w1 hl (hB w1 h1).num
  have HLA : (cutA (hdW L)).length ≤ 2000 := Nat.le_trans (cut_le _ _).1 hxl
  have HLB : (cutB (hdW L)).length ≤ 2000 := Nat.le_trans (cutB_le _) hxl
  clear h hB hs
  cases hh : (hdW L == [104, 97, 115])
  case true =>
    have HT : Hid (tstF n f L = (match numF (hdW L.tail) with | some q => .ok (⟨2, f, q, 0, []⟩, L.tail.tail) | none => .error (numC (hdW L.tail), hdP n L.tail))) := tst_has hh
    go_enter Tryz.func32, Tryz.ntmps32
    go_wp2_with fail
    refine HNX.out.mono ?_
    rintro e w1 ⟨p, v1, rfl, hr1, hv1, ho1, hp1⟩
    have HP1 : Hid (p = ((hdP n L : Nat) : Int)) := hp1
    clear hp1
    have HR1 : Hid (RdAt w1 b 54 n [] v1 L.tail) := hr1
    have HO1 : Hid (Ot (fun k => k = b) w w1) := ho1
    clear hr1 ho1
    go_wp2_with fail
    refine (HHS.out _ v1 (HO1.out.alloc _) (HR1.out.below (below_alloc_ (Below.refl _ _) _))).mono ?_
    intro e w2 hp
    obtain ⟨v2, L2, g1, g2, g3, g4, g5⟩ := hp.after (w := w) (L := L) (HO1.out.alloc _) hv1 tail_mem
    rcases g5 with ⟨t, fv, e1, rfl, e3⟩ | ⟨c, q, B, e1, rfl, e3, e4⟩
    · go_wp2
      go_ret2
      exact ⟨v2, L2, g1, g2, g3, g4, Or.inl ⟨t, fv, HT.out.trans e1, rfl, e3⟩⟩
    · go_wp2
      go_ret2
      exact ⟨v2, L2, g1, g2, g3, g4, Or.inr ⟨c, q, B, HT.out.trans e1, rfl, e3, e4⟩⟩
  case false =>
    have HT : Hid (tstF n f L = (match testF f (hdW L) with | .ok t => .ok (t, L.tail) | .error c => .error (c, hdP n L))) := tst_no hh
    have HTF : Hid (testF f (hdW L) = match numF (cutA (hdW L)) with | none => .error (numC (cutA (hdW L))) | some lo => match numF (cutB (hdW L)) with | none => .error (numC (cutB (hdW L))) | some hi => if hi < lo then .error 10 else .ok ⟨1, f, lo, hi, []⟩) := rfl
    have HCB : Hid (cutB (hdW L) = if (Lib.cut (hdW L) [46, 46]).2.2 then (Lib.cut (hdW L) [46, 46]).2.1 else cutA (hdW L)) := rfl
    generalize hdW L = x at *
    generalize (Lib.cut x [46, 46]).2.1 = cb at *
    generalize (Lib.cut x [46, 46]).2.2 = cc at *
    generalize cutA x = ca at *
    generalize cutB x = ct at *
    have HN1 := fun w1 h1 => HNU.out ca w1 HLA h1
    have HN2 := fun w1 h1 => HNU.out ct w1 HLB h1
    have HBA : Hid (∀ q, numF ca = some q → 0 ≤ q ∧ q ≤ 1000000000) := fun q => numF_bd
    have HBB : Hid (∀ q, numF ct = some q → 0 ≤ q ∧ q ≤ 1000000000) := fun q => numF_bd
    generalize numC ca = qa at *
    generalize numC ct = qb at *
    generalize numF ca = na at *
    generalize numF ct = nb at *
    have HM1 : Hid (∀ w1, Ot (fun k => k = b) w w1 → Calls Tryz.prog 45 #[.string ⟨ca.toArray⟩] w1 fun e w' => ∃ c : Int, e = .returned (.tuple #[.int .i64 (na.getD 0), .int .i64 c]) ∧ (c == 0) = na.isSome ∧ (na = none → c = qa) ∧ Below w1.heap.size w1 w') := HN1
    have HM2 : Hid (∀ w1, Ot (fun k => k = b) w w1 → Calls Tryz.prog 45 #[.string ⟨ct.toArray⟩] w1 fun e w' => ∃ c : Int, e = .returned (.tuple #[.int .i64 (nb.getD 0), .int .i64 c]) ∧ (c == 0) = nb.isSome ∧ (nb = none → c = qb) ∧ Below w1.heap.size w1 w') := HN2
    clear HN1 HN2 HNU HLA HLB hxl
    cases cc
    case true =>
      have hcb := HCB.out
      simp only [if_true] at hcb
      subst hcb
      go_enter Tryz.func32, Tryz.ntmps32
      go_wp2_with fail
      refine HNX.out.mono ?_
      rintro e w1 ⟨p, v1, rfl, hr1, hv1, ho1, hp1⟩
      have HP1 : Hid (p = ((hdP n L : Nat) : Int)) := hp1
      clear hp1
      have HR1 : Hid (RdAt w1 b 54 n [] v1 L.tail) := hr1
      have HO1 : Hid (Ot (fun k => k = b) w w1) := ho1
      clear hr1 ho1
      go_wp2_with fail
      refine (HCU.out _ (HO1.out.alloc _)).mono ?_
      rintro e w2 ⟨rfl, hb2⟩
      have hbA := below_alloc_ (Below.refl w1.heap.size w1) (.cells #[.string ⟨x.toArray⟩, .int .i64 p] 49)
      have k2 : w2.heap[w1.heap.size]? = some (.cells #[.string ⟨x.toArray⟩, .int .i64 p] 49 (0, 0)) := (hb2.block w1.heap.size (by simp)).trans (new_block _ _)
      have K2 : Hid (w2.heap[w1.heap.size]? = some (.cells #[.string ⟨x.toArray⟩, .int .i64 p] 49 (0, 0))) := k2
      have HR2 : Hid (RdAt w2 b 54 n [] v1 L.tail) := (HR1.out.below hbA).below hb2
      have HO2 : Hid (Ot (fun k => k = b) w w2) := (HO1.out.alloc _).trans (Ot.of_below hb2)
      clear hb2 hbA k2
      go_wp2_with fail
      refine (HM1.out _ HO2.out).mono ?_
      rintro e w3 ⟨c, rfl, hc, hcn, hb3⟩
      have k3 : w3.heap[w1.heap.size]? = some (.cells #[.string ⟨x.toArray⟩, .int .i64 p] 49 (0, 0)) := (hb3.block w1.heap.size (lt_of_block K2.out)).trans K2.out
      have K3 : Hid (w3.heap[w1.heap.size]? = some (.cells #[.string ⟨x.toArray⟩, .int .i64 p] 49 (0, 0))) := k3
      have HR3 : Hid (RdAt w3 b 54 n [] v1 L.tail) := HR2.out.below hb3
      have HO3 : Hid (Ot (fun k => k = b) w w3) := HO2.out.trans (Ot.of_below hb3)
      clear hb3
      have HCN : Hid (na = none → c = qa) := hcn
      clear hcn
      cases na with
      | none =>
        have o1 : (c == 0) = false := hc
        have k0 : w3.cell? ⟨w1.heap.size, 0, none⟩ = some (.string ⟨x.toArray⟩) := by simp [World.cell?, k3]
        have k1 : w3.cell? ⟨w1.heap.size, 1, none⟩ = some (.int .i64 p) := by simp [World.cell?, k3]
        clear hc k3
        go_wp2_with fail
        refine (wrong_any _ _ _ _).mono ?_
        rintro e w4 ⟨B, rfl, hBk, hBn, hb4⟩
        go_wp2
        go_ret2
        exact ⟨v1, L.tail, HR3.out.below hb4, hv1, HO3.out.trans (Ot.of_below hb4), tail_mem, Or.inr ⟨_, _, B, by rw [HT.out, HTF.out], rfl, by rw [hBk, HCN.out (by first | rfl | trivial), HP1.out], Nat.le_trans HO3.out.size hBn⟩⟩
      | some lo =>
        have o1 : (c == 0) = true := hc
        clear hc k3
        go_wp2_with fail
        refine (HM2.out _ HO3.out).mono ?_
        rintro e w4 ⟨c2, rfl, hc2, hcn2, hb4⟩
        have k4 : w4.heap[w1.heap.size]? = some (.cells #[.string ⟨x.toArray⟩, .int .i64 p] 49 (0, 0)) := (hb4.block w1.heap.size (lt_of_block K3.out)).trans K3.out
        have k0 : w4.cell? ⟨w1.heap.size, 0, none⟩ = some (.string ⟨x.toArray⟩) := by simp [World.cell?, k4]
        have k1 : w4.cell? ⟨w1.heap.size, 1, none⟩ = some (.int .i64 p) := by simp [World.cell?, k4]
        have HR4 : Hid (RdAt w4 b 54 n [] v1 L.tail) := HR3.out.below hb4
        have HO4 : Hid (Ot (fun k => k = b) w w4) := HO3.out.trans (Ot.of_below hb4)
        clear hb4 k4
        have HCN2 : Hid (nb = none → c2 = qb) := hcn2
        clear hcn2
        cases nb with
        | none =>
          have o2 : (c2 == 0) = false := hc2
          clear hc2
          go_wp2_with fail
          refine (wrong_any _ _ _ _).mono ?_
          rintro e w5 ⟨B, rfl, hBk, hBn, hb5⟩
          go_wp2
          go_ret2
          exact ⟨v1, L.tail, HR4.out.below hb5, hv1, HO4.out.trans (Ot.of_below hb5), tail_mem, Or.inr ⟨_, _, B, by rw [HT.out, HTF.out], rfl, by rw [hBk, HCN2.out (by first | rfl | trivial), HP1.out], Nat.le_trans HO4.out.size hBn⟩⟩
        | some hi =>
          have o2 : (c2 == 0) = true := hc2
          clear hc2
          by_cases hlt : hi < lo
          · have d1 : decide (hi < lo) = true := by simpa using hlt
            have HRS : Hid (tstF n f L = .error (10, hdP n L)) := by show _ = _; rw [HT.out, HTF.out]; simp only []; rw [if_pos hlt]
            clear hlt
            go_wp2_with fail
            refine (wrong_any _ _ _ _).mono ?_
            rintro e w5 ⟨B, rfl, hBk, hBn, hb5⟩
            go_wp2
            go_ret2
            exact ⟨v1, L.tail, HR4.out.below hb5, hv1, HO4.out.trans (Ot.of_below hb5), tail_mem, Or.inr ⟨10, _, B, HRS.out, rfl, by rw [hBk, HP1.out], Nat.le_trans HO4.out.size hBn⟩⟩
          · have d1 : decide (hi < lo) = false := by simpa using hlt
            have HRS : Hid (tstF n f L = .ok (⟨1, f, lo, hi, []⟩, L.tail)) := by show _ = _; rw [HT.out, HTF.out]; simp only []; rw [if_neg hlt]
            have b1 := HBA.out lo rfl
            have b2 := HBB.out hi rfl
            have hle : lo ≤ hi := by omega
            clear hlt
            go_wp2
            go_ret2
            exact ⟨v1, L.tail, HR4.out, hv1, HO4.out, tail_mem, Or.inl ⟨_, _, HRS.out, rfl, Or.inr (Or.inl ⟨f, lo, hi, rfl, rfl, hf, b1.1, hle, b2.2⟩)⟩⟩
    case false =>
      have hcb := HCB.out
      simp only [Bool.false_eq_true, if_false] at hcb
      subst hcb
      go_enter Tryz.func32, Tryz.ntmps32
      go_wp2_with fail
      refine HNX.out.mono ?_
      rintro e w1 ⟨p, v1, rfl, hr1, hv1, ho1, hp1⟩
      have HP1 : Hid (p = ((hdP n L : Nat) : Int)) := hp1
      clear hp1
      have HR1 : Hid (RdAt w1 b 54 n [] v1 L.tail) := hr1
      have HO1 : Hid (Ot (fun k => k = b) w w1) := ho1
      clear hr1 ho1
      go_wp2_with fail
      refine (HCU.out _ (HO1.out.alloc _)).mono ?_
      rintro e w2 ⟨rfl, hb2⟩
      have hbA := below_alloc_ (Below.refl w1.heap.size w1) (.cells #[.string ⟨x.toArray⟩, .int .i64 p] 49)
      have k2 : w2.heap[w1.heap.size]? = some (.cells #[.string ⟨x.toArray⟩, .int .i64 p] 49 (0, 0)) := (hb2.block w1.heap.size (by simp)).trans (new_block _ _)
      have K2 : Hid (w2.heap[w1.heap.size]? = some (.cells #[.string ⟨x.toArray⟩, .int .i64 p] 49 (0, 0))) := k2
      have HR2 : Hid (RdAt w2 b 54 n [] v1 L.tail) := (HR1.out.below hbA).below hb2
      have HO2 : Hid (Ot (fun k => k = b) w w2) := (HO1.out.alloc _).trans (Ot.of_below hb2)
      clear hb2 hbA k2
      go_wp2_with fail
      refine (HM1.out _ HO2.out).mono ?_
      rintro e w3 ⟨c, rfl, hc, hcn, hb3⟩
      have k3 : w3.heap[w1.heap.size]? = some (.cells #[.string ⟨x.toArray⟩, .int .i64 p] 49 (0, 0)) := (hb3.block w1.heap.size (lt_of_block K2.out)).trans K2.out
      have K3 : Hid (w3.heap[w1.heap.size]? = some (.cells #[.string ⟨x.toArray⟩, .int .i64 p] 49 (0, 0))) := k3
      have HR3 : Hid (RdAt w3 b 54 n [] v1 L.tail) := HR2.out.below hb3
      have HO3 : Hid (Ot (fun k => k = b) w w3) := HO2.out.trans (Ot.of_below hb3)
      clear hb3
      have HCN : Hid (na = none → c = qa) := hcn
      clear hcn
      cases na with
      | none =>
        have o1 : (c == 0) = false := hc
        have k0 : w3.cell? ⟨w1.heap.size, 0, none⟩ = some (.string ⟨x.toArray⟩) := by simp [World.cell?, k3]
        have k1 : w3.cell? ⟨w1.heap.size, 1, none⟩ = some (.int .i64 p) := by simp [World.cell?, k3]
        clear hc k3
        go_wp2_with fail
        refine (wrong_any _ _ _ _).mono ?_
        rintro e w4 ⟨B, rfl, hBk, hBn, hb4⟩
        go_wp2
        go_ret2
        exact ⟨v1, L.tail, HR3.out.below hb4, hv1, HO3.out.trans (Ot.of_below hb4), tail_mem, Or.inr ⟨_, _, B, by rw [HT.out, HTF.out], rfl, by rw [hBk, HCN.out (by first | rfl | trivial), HP1.out], Nat.le_trans HO3.out.size hBn⟩⟩
      | some lo =>
        have o1 : (c == 0) = true := hc
        clear hc k3
        go_wp2_with fail
        refine (HM2.out _ HO3.out).mono ?_
        rintro e w4 ⟨c2, rfl, hc2, hcn2, hb4⟩
        have k4 : w4.heap[w1.heap.size]? = some (.cells #[.string ⟨x.toArray⟩, .int .i64 p] 49 (0, 0)) := (hb4.block w1.heap.size (lt_of_block K3.out)).trans K3.out
        have k0 : w4.cell? ⟨w1.heap.size, 0, none⟩ = some (.string ⟨x.toArray⟩) := by simp [World.cell?, k4]
        have k1 : w4.cell? ⟨w1.heap.size, 1, none⟩ = some (.int .i64 p) := by simp [World.cell?, k4]
        have HR4 : Hid (RdAt w4 b 54 n [] v1 L.tail) := HR3.out.below hb4
        have HO4 : Hid (Ot (fun k => k = b) w w4) := HO3.out.trans (Ot.of_below hb4)
        clear hb4 k4
        have HCN2 : Hid (nb = none → c2 = qb) := hcn2
        clear hcn2
        cases nb with
        | none =>
          have o2 : (c2 == 0) = false := hc2
          clear hc2
          go_wp2_with fail
          refine (wrong_any _ _ _ _).mono ?_
          rintro e w5 ⟨B, rfl, hBk, hBn, hb5⟩
          go_wp2
          go_ret2
          exact ⟨v1, L.tail, HR4.out.below hb5, hv1, HO4.out.trans (Ot.of_below hb5), tail_mem, Or.inr ⟨_, _, B, by rw [HT.out, HTF.out], rfl, by rw [hBk, HCN2.out (by first | rfl | trivial), HP1.out], Nat.le_trans HO4.out.size hBn⟩⟩
        | some hi =>
          have o2 : (c2 == 0) = true := hc2
          clear hc2
          by_cases hlt : hi < lo
          · have d1 : decide (hi < lo) = true := by simpa using hlt
            have HRS : Hid (tstF n f L = .error (10, hdP n L)) := by show _ = _; rw [HT.out, HTF.out]; simp only []; rw [if_pos hlt]
            clear hlt
            go_wp2_with fail
            refine (wrong_any _ _ _ _).mono ?_
            rintro e w5 ⟨B, rfl, hBk, hBn, hb5⟩
            go_wp2
            go_ret2
            exact ⟨v1, L.tail, HR4.out.below hb5, hv1, HO4.out.trans (Ot.of_below hb5), tail_mem, Or.inr ⟨10, _, B, HRS.out, rfl, by rw [hBk, HP1.out], Nat.le_trans HO4.out.size hBn⟩⟩
          · have d1 : decide (hi < lo) = false := by simpa using hlt
            have HRS : Hid (tstF n f L = .ok (⟨1, f, lo, hi, []⟩, L.tail)) := by show _ = _; rw [HT.out, HTF.out]; simp only []; rw [if_neg hlt]
            have b1 := HBA.out lo rfl
            have b2 := HBB.out hi rfl
            have hle : lo ≤ hi := by omega
            clear hlt
            go_wp2
            go_ret2
            exact ⟨v1, L.tail, HR4.out, hv1, HO4.out, tail_mem, Or.inl ⟨_, _, HRS.out, rfl, Or.inr (Or.inl ⟨f, lo, hi, rfl, rfl, hf, b1.1, hle, b2.2⟩)⟩⟩
end Go.Proofs.YtibecinojkkjpaaGreatDoor
